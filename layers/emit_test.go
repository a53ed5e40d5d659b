package layers

import (
	"strings"
	"testing"

	"mlcore/api"
	"mlcore/code"
	"mlcore/emit"
)

// codeOf is the code of a text, which can be run, and its bytes.
func codeOf(t *testing.T, text string) (api.Code, string) {
	t.Helper()
	c, f := emit.Emit(text)
	if f != (api.Fault{}) {
		t.Fatalf("%.300s: %v", text, f)
	}
	s, e := code.Encode(c)
	if f := code.Check(c); f != (api.Fault{}) || e != api.OK {
		t.Fatalf("%.300s: %v %v", text, f, e)
	}
	return c, s
}

// The codes of random programs can be run, and have every instruction.
func TestP14_2Random(t *testing.T) {
	t.Parallel()
	ops := map[int]int{}
	for seed := range 1000 {
		if _, text, _, ok := random(seed); ok {
			c, _ := codeOf(t, text)
			for _, f := range c.Funs {
				for _, in := range f.Ins {
					ops[in.Op]++
				}
			}
		}
	}
	for op := range api.Inss {
		if ops[op] < 100 {
			t.Errorf("%d instructions of op %d", ops[op], op)
		}
	}
}

// knownTexts is all programs of these tests that are not random ones.
func knownTexts() (all []string) {
	for _, r := range append(append(endings(), matchEndings()...), catchEndings()...) {
		all = append(all, r.text)
	}
	return append(append(append(all, uneven()...), matchWork()...), catchWork()...)
}

// longTexts is texts with codes that are as long as they come: functions in functions, which all catch the same names.
func longTexts() []string {
	var names []string
	for _, a := range "bcdghjkl" {
		for _, b := range "abcdefghijklmnopqrstuvwxyz0123456789_'" {
			names = append(names, string(a)+string(b))
		}
	}
	names = names[:300]
	begin := "fun f(" + strings.Join(names[:150], ",") + ")(" + strings.Join(names[150:], ",") + ")="
	used := "(" + strings.Join(names, ";") + ")"
	nested := func(n int, patterns string) string {
		return begin + strings.Repeat("let fun f "+patterns+"=", n) + used + strings.Repeat(" in 1 end", n)
	}
	// A function of 198 patterns is 198 functions. (Of more its type would be too great.)
	return []string{nested(7, strings.Repeat("1_()", 66)), nested(25, "()"), begin + "(" + strings.Repeat("fn _=>", 50) + used + ";1)"}
}

// Every program has a code that can be run, however long its text is.
func TestP14_2Great(t *testing.T) {
	most, longest := 0, 0
	for _, text := range append(greatTexts(), longTexts()...) {
		c, s := codeOf(t, text)
		for _, f := range c.Funs {
			most = max(most, len(f.Ins))
		}
		longest = max(longest, len(s))
	}
	// These are long ones indeed.
	if most < 30000 || longest < 1000000 {
		t.Errorf("%d instructions, %d bytes", most, longest)
	}
}

// The codes of all other programs of these tests can be run, too.
func TestP14_2Programs(t *testing.T) {
	for _, text := range append(knownTexts(), matchTexts()...) {
		codeOf(t, text)
	}
}
