package lexer

import (
	"fmt"
	"strings"
	"testing"

	"mlcore/api"
)

func TestP1_2Quote(t *testing.T) {
	for _, r := range []struct{ s, want string }{
		{"", `""`},
		{"abc", `"abc"`},
		{"a\nb\t", `"a\nb\t"`},
		{`"\`, `"\"\\"`},
		{`\n`, `"\\n"`},
		{"\x00\xff~", `"\000\255~"`},
		{"\r\x1f\x7f ", `"\013\031\127 "`},
		{"A5\x005", `"A5\0005"`},
		{"ä\xe2\x82", `"\195\164\226\130"`},
		{"\xff\xfe", `"\255\254"`},
		{"\u2028", `"\226\128\168"`},
		{"'", `"'"`},
	} {
		if got := Quote(r.s); got != r.want {
			t.Errorf("%q: %s, want %s", r.s, got, r.want)
		}
	}
}

func TestP1_2EveryByte(t *testing.T) {
	special := map[byte]string{'\n': `\n`, '\t': `\t`, '"': `\"`, '\\': `\\`}
	for b := range 256 {
		want, ok := special[byte(b)]
		if !ok && b >= 32 && b <= 126 {
			want = string(rune(b))
		} else if !ok {
			want = fmt.Sprintf(`\%03d`, b)
		}
		if got := Quote(string([]byte{byte(b)})); got != `"`+want+`"` {
			t.Errorf("byte %d: %s", b, got)
		}
	}
}

func TestP1_2SaysWhatItQuotes(t *testing.T) {
	var all []byte
	for b := range 256 {
		all = append(all, byte(b))
	}
	for at := 0; at+api.MaxStr <= len(all); at++ {
		s := string(all[at : at+api.MaxStr])
		reads(t, Quote(s), says(0, s))
	}
	for a := range 256 {
		for b := range 256 {
			s := string([]byte{byte(a), byte(b)})
			reads(t, Quote(s), says(0, s))
		}
	}
}

func TestP1_2AnyLength(t *testing.T) {
	n := 100 * api.MaxText
	if got := Quote(strings.Repeat("\x80", n)); got != `"`+strings.Repeat(`\128`, n)+`"` {
		t.Errorf("a long string: %d bytes", len(got))
	}
	fails(t, Quote(strings.Repeat("x", api.MaxStr+1)), api.ErrToken, 0)
}
