package lexer

import (
	"math/rand"
	"regexp"
	"slices"
	"strconv"
	"strings"
	"testing"

	"mlcore/api"
)

// A second reader, written from the table of P1.1 by expressions alone: slow, and nothing like the first.
// strconv reads what the strings say: their escapes are Go's, but that three digits are not octal.

type shape struct {
	kind int
	exp  *regexp.Regexp
}

var shapes = []shape{
	{api.TokInt, regexp.MustCompile(`^[0-9]+`)},
	{api.TokStr, regexp.MustCompile(`^"([ !#-\[\]-~]|\\[nt\\"]|\\[01][0-9][0-9]|\\2[0-4][0-9]|\\25[0-5])*"`)},
	{api.TokLower, regexp.MustCompile(`^[a-z_][a-zA-Z0-9_']*`)},
	{api.TokUpper, regexp.MustCompile(`^[A-Z][a-zA-Z0-9_']*`)},
	{api.TokVar, regexp.MustCompile(`^''?[a-z][a-z0-9]*`)},
	{api.TokSign, regexp.MustCompile(`^(=>|->|:=|::|:>|<>|<=|>=|[][(),;:|=<>+*/%^~!._-])`)},
}

var (
	wordShape    = regexp.MustCompile(`^(and|andalso|as|case|data|else|end|exception|false|fn|fun|if|in|let|of|open|orelse|raise|sig|signature|struct|structure|then|true|try|type|val|with)$`)
	digitsShape  = regexp.MustCompile(`\\([0-9]{3})`)
	commentSigns = regexp.MustCompile(`\(\*|\*\)`)
)

func slowTokens(text string) ([]api.Token, api.Fault) {
	var list []api.Token
	at := 0
	for at < len(text) {
		if strings.ContainsRune(" \t\n", rune(text[at])) {
			at++
			continue
		}
		if strings.HasPrefix(text[at:], "(*") {
			n := slowComment(text[at:])
			if n == 0 {
				return list, api.Fault{Kind: api.ErrToken, At: at}
			}
			at += n
			continue
		}
		t, n := slowToken(text[at:])
		if n == 0 {
			return list, api.Fault{Kind: api.ErrToken, At: at}
		}
		t.At = at
		list = append(list, t)
		at += n
	}
	return append(list, api.Token{At: len(text)}), api.Fault{}
}

func slowComment(text string) int {
	deep := 0
	for _, m := range commentSigns.FindAllStringIndex(text, -1) {
		if text[m[0]] == '(' {
			deep++
		} else {
			deep--
		}
		if deep == 0 {
			return m[1]
		}
	}
	return 0
}

func slowToken(text string) (api.Token, int) {
	var t api.Token
	for _, s := range shapes {
		// Of two that are as long the later one holds: a _ alone is a sign.
		if m := s.exp.FindString(text); m != "" && len(m) >= len(t.Text) {
			t.Kind, t.Text = s.kind, m
		}
	}
	n := len(t.Text)
	switch t.Kind {
	case api.TokInt:
		t.N, _ = strconv.Atoi(t.Text)
		if len(strings.TrimLeft(t.Text, "0")) > 10 || t.N > api.MaxInt {
			n = 0
		}
		t.Text = ""
	case api.TokStr:
		t.Text = slowSays(t.Text)
		if len(t.Text) > api.MaxStr {
			n = 0
		}
	case api.TokLower, api.TokUpper, api.TokVar:
		if wordShape.MatchString(t.Text) {
			t.Kind = api.TokWord
		}
		if len(strings.TrimLeft(t.Text, "'")) > api.MaxName {
			n = 0
		}
	}
	return t, n
}

func slowSays(token string) string {
	// A \ that was said by \\ must not begin three digits.
	parts := strings.Split(token, `\\`)
	for i, p := range parts {
		parts[i] = digitsShape.ReplaceAllStringFunc(p, func(m string) string {
			n, _ := strconv.Atoi(m[1:])
			return `\x` + strconv.FormatInt(int64(256+n), 16)[1:]
		})
	}
	s, _ := strconv.Unquote(strings.Join(parts, `\\`))
	return s
}

func sameAsSlow(t *testing.T, text string) {
	t.Helper()
	got, f := Tokens(text)
	want, g := slowTokens(text)
	if f != g || !slices.Equal(got, want) {
		t.Errorf("%q: %v %v, want %v %v", text, got, f, want, g)
	}
}

func TestP1_1ShortTexts(t *testing.T) {
	const letters = "aB_'1\"\\(*) :>=n$"
	var all func(text string, left int)
	all = func(text string, left int) {
		sameAsSlow(t, text)
		if left == 0 || t.Failed() {
			return
		}
		for i := range letters {
			all(text+letters[i:i+1], left-1)
		}
	}
	all("", 4)
}

func TestP1_1MixedTexts(t *testing.T) {
	parts := strings.Split("(*|*)|(|*|)|\"|\"|\"|\\|\\n|\\065|\\255|\\256|\\\\|\\\"|val|fun|x|y'|_|A|'|''|'a|0|12|1000000000|000|=>|->|:=|:|>|<|=|-|.| | |\n|\t|$|abcdefghijklmno|9999", "|")
	r := rand.New(rand.NewSource(1))
	for range 30000 {
		var b strings.Builder
		for range r.Intn(16) {
			b.WriteString(parts[r.Intn(len(parts))])
		}
		sameAsSlow(t, b.String())
		if t.Failed() {
			return
		}
	}
}

// TestP1AnyBytes: P1 asks of any bytes that there is no panic, that the answer is the same each time, and that places lie in the text.
func TestP1AnyBytes(t *testing.T) {
	r := rand.New(rand.NewSource(2))
	for range 2000 {
		b := make([]byte, r.Intn(40))
		for i := range b {
			b[i] = byte(r.Intn(256))
		}
		text := string(b)
		got, f := Tokens(text)
		again, g := Tokens(text)
		if f != g || !slices.Equal(got, again) {
			t.Fatalf("%q: two answers", text)
		}
		if f.At < 0 || f.At > len(text) || f.Kind == api.ErrByte && len(got) > 0 {
			t.Fatalf("%q: %v %v", text, got, f)
		}
	}
}
