package lexer

import "mlcore/api"

// Quote writes a string as a token.
func Quote(s string) string {
	out := []byte{'"'}
	for i := range len(s) {
		out = appendQuoted(out, s[i])
	}
	return string(append(out, '"'))
}

func appendQuoted(out []byte, b byte) []byte {
	for _, e := range escapes {
		if e.says == b {
			return append(out, '\\', e.letter)
		}
	}
	if b < ' ' || b > '~' {
		return append(out, '\\', '0'+b/100, '0'+b/10%10, '0'+b%10)
	}
	return append(out, b)
}

func readString(text string, at int) (api.Token, int) {
	var said []byte
	var b byte
	i, ok := at+1, true
plain:
	if i >= len(text) || text[i] < ' ' {
		goto wrong
	}
	if text[i] == '"' {
		goto end
	}
	if text[i] == '\\' {
		goto escape
	}
	said = append(said, text[i])
	i++
	goto plain
escape:
	if b, i, ok = readEscape(text, i+1); !ok {
		goto wrong
	}
	said = append(said, b)
	goto plain
end:
	if len(said) <= api.MaxStr {
		return api.Token{Kind: api.TokStr, At: at, Text: string(said)}, i + 1
	}
wrong:
	return api.Token{}, none
}

// readEscape gives the byte that is said by what stands behind a \, and where this ends.
func readEscape(text string, at int) (byte, int, bool) {
	if at >= len(text) {
		return 0, at, false
	}
	for _, e := range escapes {
		if e.letter == text[at] {
			return e.says, at + 1, true
		}
	}
	end := at + 3
	if span(text, at, digit) < end {
		return 0, at, false
	}
	n := 0
	for _, c := range text[at:end] {
		n = 10*n + int(c-'0')
	}
	return byte(n), end, n <= 255
}
