package lexer

import "mlcore/api"

// The sets of bytes that tokens are made of. They stand side by side in one
// number, so that a run of several is asked for at once.
const (
	blank = 1 << iota
	digit
	small
	capital
	under
	tick
	quote
	inName = small | capital | digit | under | tick
)

// setOf is the set that a byte is in; 0: it is in none.
func setOf(c rune) int {
	switch {
	case c == ' ' || c == '\t' || c == '\n':
		return blank
	case '0' <= c && c <= '9':
		return digit
	case 'a' <= c && c <= 'z':
		return small
	case 'A' <= c && c <= 'Z':
		return capital
	case c == '_':
		return under
	case c == '\'':
		return tick
	case c == '"':
		return quote
	}
	return 0
}

// The longer signs stand first, so that the first that fits is the longest.
var signs = [...]string{
	"=>", "->", ":=", "::", ":>", "<>", "<=", ">=",
	"(", ")", "[", "]", ",", ";", ":", "|", "=", "<", ">",
	"+", "-", "*", "/", "%", "^", "~", "!", ".", "_",
}

// What stands behind a \ for a byte. Reading and writing share it, so that
// neither knows one that the other does not.
var escapes = [...]struct{ letter, says byte }{
	{'n', '\n'}, {'t', '\t'}, {'\\', '\\'}, {'"', '"'},
}

// wordKinds has the names that are words, with the kind of their tokens.
func wordKinds() map[string]int {
	return map[string]int{
		"and":       api.TokWord,
		"andalso":   api.TokWord,
		"as":        api.TokWord,
		"case":      api.TokWord,
		"data":      api.TokWord,
		"else":      api.TokWord,
		"end":       api.TokWord,
		"exception": api.TokWord,
		"false":     api.TokWord,
		"fn":        api.TokWord,
		"fun":       api.TokWord,
		"if":        api.TokWord,
		"in":        api.TokWord,
		"let":       api.TokWord,
		"of":        api.TokWord,
		"open":      api.TokWord,
		"orelse":    api.TokWord,
		"raise":     api.TokWord,
		"sig":       api.TokWord,
		"signature": api.TokWord,
		"struct":    api.TokWord,
		"structure": api.TokWord,
		"then":      api.TokWord,
		"true":      api.TokWord,
		"try":       api.TokWord,
		"type":      api.TokWord,
		"val":       api.TokWord,
		"with":      api.TokWord,
	}
}
