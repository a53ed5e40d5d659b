package lexer

import (
	"slices"
	"strings"
	"testing"

	"mlcore/api"
)

func kindText(kind, at int, text string) api.Token {
	return api.Token{Kind: kind, At: at, Text: text}
}

func lower(at int, text string) api.Token    { return kindText(api.TokLower, at, text) }
func upper(at int, text string) api.Token    { return kindText(api.TokUpper, at, text) }
func variable(at int, text string) api.Token { return kindText(api.TokVar, at, text) }
func word(at int, text string) api.Token     { return kindText(api.TokWord, at, text) }
func sign(at int, text string) api.Token     { return kindText(api.TokSign, at, text) }
func says(at int, text string) api.Token     { return kindText(api.TokStr, at, text) }
func number(at, n int) api.Token             { return api.Token{Kind: api.TokInt, At: at, N: n} }

// reads holds a text that has no fault to its tokens; the last one, TokEnd, is not written in the tests.
func reads(t *testing.T, text string, want ...api.Token) {
	t.Helper()
	want = append(want, api.Token{Kind: api.TokEnd, At: len(text)})
	got, f := Tokens(text)
	if f != (api.Fault{}) || !slices.Equal(got, want) {
		t.Errorf("%q: %v %v, want %v", text, got, f, want)
	}
}

// fails holds a text to its fault, and to the tokens ahead of it.
func fails(t *testing.T, text string, kind api.Errno, at int, want ...api.Token) {
	t.Helper()
	got, f := Tokens(text)
	if f != (api.Fault{Kind: kind, At: at}) || !slices.Equal(got, want) {
		t.Errorf("%.40q: %v %v, want %v at %d and %v", text, got, f, kind, at, want)
	}
}

func TestP1_1Long(t *testing.T) {
	fails(t, strings.Repeat(" ", api.MaxText+1), api.ErrLong, 0)
	fails(t, "\x00"+strings.Repeat("a", api.MaxText), api.ErrLong, 0)
	reads(t, strings.Repeat(" ", api.MaxText))
	got, f := Tokens(strings.Repeat("(", api.MaxText))
	if f != (api.Fault{}) || len(got) != api.MaxText+1 {
		t.Errorf("as many tokens as bytes: %d %v", len(got), f)
	}
}

func TestP1_1EveryByte(t *testing.T) {
	for b := range 256 {
		text := string([]byte{'a', ' ', byte(b)})
		_, f := Tokens(text)
		may := b == 9 || b == 10 || b >= 32 && b <= 126
		if may == (f.Kind == api.ErrByte) {
			t.Errorf("byte %d: %v", b, f)
		}
		if !may {
			fails(t, text, api.ErrByte, 2)
			fails(t, "(*"+text, api.ErrByte, 4)
			fails(t, "\""+text+"\"", api.ErrByte, 3)
		}
	}
}

func TestP1_1BytesAheadOfTokens(t *testing.T) {
	fails(t, "$ (* \" \r", api.ErrByte, 7)
	fails(t, "ab\xc3\xa4\x00", api.ErrByte, 2)
	fails(t, "ab\xe2\x82", api.ErrByte, 2)
	fails(t, "\xef\xbf\xbd", api.ErrByte, 0)
	fails(t, "x\xc1\x81", api.ErrByte, 1)
}

func TestP1_1Blanks(t *testing.T) {
	reads(t, "")
	reads(t, " \t\n")
	reads(t, "\n a\t\n\tb ", lower(2, "a"), lower(6, "b"))
}

func TestP1_1Comments(t *testing.T) {
	reads(t, "(**)")
	reads(t, "(***)")
	reads(t, "(*)*)")
	reads(t, "(*(*)*)*)")
	reads(t, "(* (* *) (* (**) *) *)a", lower(22, "a"))
	reads(t, "a(* \" \\ $ \n *)b", lower(0, "a"), lower(14, "b"))
	reads(t, "(**)(**)1", number(8, 1))
	reads(t, "*)", sign(0, "*"), sign(1, ")"))
	reads(t, "( *)", sign(0, "("), sign(2, "*"), sign(3, ")"))
	reads(t, "\"(*\"", says(0, "(*"))
	fails(t, "(*", api.ErrToken, 0)
	fails(t, "(*)", api.ErrToken, 0)
	fails(t, "(* *", api.ErrToken, 0)
	fails(t, "(*(*)*)", api.ErrToken, 0)
	fails(t, "a (**) (* (* *) b", api.ErrToken, 7, lower(0, "a"))
	fails(t, "$ (*", api.ErrToken, 0)
	half := api.MaxText / 4
	reads(t, strings.Repeat("(*", half)+strings.Repeat("*)", half))
	fails(t, strings.Repeat("(*", 2*half), api.ErrToken, 0)
}

func TestP1_1Numbers(t *testing.T) {
	reads(t, "0", number(0, 0))
	reads(t, "007 12ab", number(0, 7), number(4, 12), lower(6, "ab"))
	reads(t, "1000000000", number(0, api.MaxInt))
	reads(t, strings.Repeat("0", 30)+"1000000000", number(0, api.MaxInt))
	reads(t, "~1.2", sign(0, "~"), number(1, 1), sign(2, "."), number(3, 2))
	fails(t, "a 1000000001", api.ErrToken, 2, lower(0, "a"))
	fails(t, "10000000000", api.ErrToken, 0)
	fails(t, "18446744073709551617", api.ErrToken, 0)
	fails(t, strings.Repeat("9", api.MaxText), api.ErrToken, 0)
}

func TestP1_1Strings(t *testing.T) {
	reads(t, `""`, says(0, ""))
	reads(t, `"a""b"`, says(0, "a"), says(3, "b"))
	reads(t, `"\n\t\\\""`, says(0, "\n\t\\\""))
	reads(t, `"\000\0655\255"`, says(0, "\x00A5\xff"))
	reads(t, `" !#[]~'"`, says(0, " !#[]~'"))
	for _, text := range []string{
		`"`, `"b`, `"\"`, `"\`, `"\a"`, `"\256"`, `"\999"`, `"\1"`, `"\12"`, `"\12`, `"\12a"`, `"\N"`, `"\ "`,
		"\"a\nb\"", "\"a\tb\"", "\"\\\n\"",
	} {
		fails(t, text, api.ErrToken, 0)
		fails(t, "a "+text, api.ErrToken, 2, lower(0, "a"))
	}
}

func TestP1_1StringBounds(t *testing.T) {
	full := strings.Repeat("x", api.MaxStr)
	reads(t, `"`+full+`"`, says(0, full))
	fails(t, `"`+full+`x"`, api.ErrToken, 0)
	reads(t, `"`+strings.Repeat(`\120`, api.MaxStr)+`"`, says(0, full))
	fails(t, `"`+strings.Repeat(`\120`, api.MaxStr+1)+`"`, api.ErrToken, 0)
}

func TestP1_1Names(t *testing.T) {
	reads(t, "x'1", lower(0, "x'1"))
	reads(t, "_ __ _1 _' _a", sign(0, "_"), lower(2, "__"), lower(5, "_1"), lower(8, "_'"), lower(11, "_a"))
	reads(t, "_)_", sign(0, "_"), sign(1, ")"), sign(2, "_"))
	reads(t, "aB'_9 A Ab'_9", lower(0, "aB'_9"), upper(6, "A"), upper(8, "Ab'_9"))
	reads(t, "A.b", upper(0, "A"), sign(1, "."), lower(2, "b"))
	full := strings.Repeat("x", api.MaxName)
	reads(t, full, lower(0, full))
	reads(t, "X"+full[1:], upper(0, "X"+full[1:]))
	fails(t, "a "+full+"x", api.ErrToken, 2, lower(0, "a"))
	fails(t, "X"+full, api.ErrToken, 0)
	fails(t, strings.Repeat("_", api.MaxName+1), api.ErrToken, 0)
	fails(t, full+"'", api.ErrToken, 0)
}

func TestP1_1Variables(t *testing.T) {
	reads(t, "'a ''b1", variable(0, "'a"), variable(3, "''b1"))
	reads(t, "'a_b", variable(0, "'a"), lower(2, "_b"))
	reads(t, "'aB 'a'b", variable(0, "'a"), upper(2, "B"), variable(4, "'a"), variable(6, "'b"))
	reads(t, "'val", variable(0, "'val"))
	full := strings.Repeat("x", api.MaxName)
	reads(t, "'"+full, variable(0, "'"+full))
	reads(t, "''"+full, variable(0, "''"+full))
	fails(t, "'"+full+"x", api.ErrToken, 0)
	fails(t, "''"+full+"1", api.ErrToken, 0)
	for _, text := range []string{"'", "''", "'1", "'A", "'_a", "''1", "''A", "'''a", "' a", "'' a"} {
		fails(t, text, api.ErrToken, 0)
	}
}

func TestP1_1Words(t *testing.T) {
	all := "and andalso as case data else end exception false fn fun if in let of open orelse raise" +
		" sig signature struct structure then true try type val with"
	for _, w := range strings.Fields(all) {
		reads(t, w, word(0, w))
		reads(t, w+"'", lower(0, w+"'"))
		reads(t, "_"+w, lower(0, "_"+w))
		first := strings.ToUpper(w[:1]) + w[1:]
		reads(t, first, upper(0, first))
		reads(t, w+"(", word(0, w), sign(len(w), "("))
	}
	for _, n := range []string{"an", "vals", "ref", "not", "do", "while", "rec", "infix", "datatype", "handle", "local"} {
		reads(t, n, lower(0, n))
	}
}

func TestP1_1Signs(t *testing.T) {
	all := "=> -> := :: :> <> <= >= ( ) [ ] , ; : | = < > + - * / % ^ ~ ! . _"
	for _, s := range strings.Fields(all) {
		reads(t, s, sign(0, s))
		reads(t, " "+s+" 1", sign(1, s), number(2+len(s), 1))
	}
	reads(t, "a:>b", lower(0, "a"), sign(1, ":>"), lower(3, "b"))
	reads(t, ":::=", sign(0, "::"), sign(2, ":="))
	reads(t, "==>", sign(0, "="), sign(1, "=>"))
	reads(t, "<=>", sign(0, "<="), sign(2, ">"))
	reads(t, "->>=", sign(0, "->"), sign(2, ">="))
	reads(t, "= >", sign(0, "="), sign(2, ">"))
	reads(t, "||", sign(0, "|"), sign(1, "|"))
	for _, s := range strings.Split("# $ & ? @ { } ` \\", " ") {
		fails(t, "1"+s+"2", api.ErrToken, 1, number(0, 1))
	}
}

func TestP1_1AnswersAreNew(t *testing.T) {
	first, _ := Tokens("a b")
	first[0].Text = "c"
	reads(t, "a b", lower(0, "a"), lower(2, "b"))
}
