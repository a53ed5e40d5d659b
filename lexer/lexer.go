// Package lexer finds the tokens of a text.
package lexer

import (
	"strings"

	"mlcore/api"
)

// Tokens gives a text's tokens, or the first fault.
func Tokens(text string) ([]api.Token, api.Fault) {
	if f := unfit(text); f.Kind != api.OK {
		return nil, f
	}
	var list []api.Token
	words := wordKinds()
	at, ended := skip(text, 0)
	for ended && at < len(text) {
		t, end := read(text, at, words)
		if end == none {
			return list, api.Fault{Kind: api.ErrToken, At: at}
		}
		list = append(list, t)
		at, ended = skip(text, end)
	}
	if !ended {
		return list, api.Fault{Kind: api.ErrToken, At: at}
	}
	return append(list, api.Token{Kind: api.TokEnd, At: at}), api.Fault{}
}

// unfit says why a text is not to be read at all.
// Runes are as good as bytes here: one of several bytes is above '~', and so is
// what stands for a broken one, and its place is that of its first byte.
func unfit(text string) api.Fault {
	if len(text) > api.MaxText {
		return api.Fault{Kind: api.ErrLong}
	}
	for at, c := range text {
		if (c < ' ' || c > '~') && c != '\t' && c != '\n' {
			return api.Fault{Kind: api.ErrByte, At: at}
		}
	}
	return api.Fault{}
}

// skip goes over blanks and comments to where they are over; or, if a comment
// does not end, to where the outermost one begins, and false.
func skip(text string, at int) (int, bool) {
	var begin, deep int
outside:
	at = span(text, at, blank)
	if !strings.HasPrefix(text[at:], "(*") {
		return at, true
	}
	begin = at
opening:
	deep++
	at += 2
inside:
	switch {
	case at >= len(text):
		return begin, false
	case strings.HasPrefix(text[at:], "(*"):
		goto opening
	case strings.HasPrefix(text[at:], "*)"):
		goto closing
	}
	at++
	goto inside
closing:
	deep--
	at += 2
	if deep > 0 {
		goto inside
	}
	goto outside
}

// span is where the bytes of these sets, from a place on, are over.
func span(text string, at, sets int) int {
	for i, c := range text[at:] {
		if setOf(c)&sets == 0 {
			return at + i
		}
	}
	return len(text)
}

// none is where a token ends that is none.
const none = -1

// read gives the longest token at a place, and where it ends.
func read(text string, at int, words map[string]int) (api.Token, int) {
	switch setOf(rune(text[at])) {
	case digit:
		return readNumber(text, at)
	case quote:
		return readString(text, at)
	case tick:
		return readVariable(text, at)
	case small, capital:
		return readName(text, at, words)
	case under:
		if span(text, at, inName) > at+1 {
			return readName(text, at, words)
		}
	}
	return readSign(text, at)
}

func readNumber(text string, at int) (api.Token, int) {
	n, end := 0, span(text, at, digit)
	for _, c := range text[at:end] {
		// Held at the first number that is too great, so that no row of digits wraps round.
		n = min(10*n+int(c-'0'), api.MaxInt+1)
	}
	if n > api.MaxInt {
		return api.Token{}, none
	}
	return api.Token{Kind: api.TokInt, At: at, N: n}, end
}

func readVariable(text string, at int) (api.Token, int) {
	name := at + 1
	if strings.HasPrefix(text[name:], "'") {
		name++
	}
	if span(text, name, small) == name {
		return api.Token{}, none
	}
	end := span(text, name, small|digit)
	if end-name > api.MaxName {
		return api.Token{}, none
	}
	return textToken(api.TokVar, at, text[at:end]), end
}

func readName(text string, at int, words map[string]int) (api.Token, int) {
	end := span(text, at, inName)
	if end-at > api.MaxName {
		return api.Token{}, none
	}
	name, kind := text[at:end], api.TokLower
	if setOf(rune(text[at])) == capital {
		kind = api.TokUpper
	} else if word, ok := words[name]; ok {
		kind = word
	}
	return textToken(kind, at, name), end
}

func readSign(text string, at int) (api.Token, int) {
	for _, s := range signs {
		if strings.HasPrefix(text[at:], s) {
			return textToken(api.TokSign, at, s), at + len(s)
		}
	}
	return api.Token{}, none
}

// textToken copies its text: a token is not to keep hold of the text that it was read from.
func textToken(kind, at int, text string) api.Token {
	return api.Token{Kind: kind, At: at, Text: strings.Clone(text)}
}
