package core

import (
	"strconv"
	"strings"
	"testing"

	"mlcore/api"
)

// row is a text, and how what becomes of it is written.
type row struct{ text, want string }

// written writes a term: its op and its place; N, Of, S where they are not empty; its patterns, numbers and kids.
func written(x api.Term) string {
	names := strings.Fields("int str var base fn app con exn tuple op if case try raise let funs seq newexn")
	l := fields(names[x.Op], x.At, x.N, x.Of, x.S)
	for _, n := range x.Ns {
		l = append(l, "#"+strconv.Itoa(n))
	}
	for _, p := range x.Pats {
		l = append(l, writtenPat(p))
	}
	for _, k := range x.Kids {
		l = append(l, written(k))
	}
	return "(" + strings.Join(l, " ") + ")"
}

func writtenPat(p api.Pat) string {
	names := strings.Fields("any var as int str tuple con exn")
	l := fields(names[p.Kind], p.At, p.N, p.Of, p.S)
	for _, k := range p.Kids {
		l = append(l, writtenPat(k))
	}
	return "[" + strings.Join(l, " ") + "]"
}

func fields(name string, at, n, of int, s string) []string {
	l := []string{name + "@" + strconv.Itoa(at)}
	if n != 0 {
		l = append(l, strconv.Itoa(n))
	}
	if of != 0 {
		l = append(l, "/"+strconv.Itoa(of))
	}
	if s != "" {
		l = append(l, s)
	}
	return l
}

// made is the term of a text that is a program.
func made(t *testing.T, text string) api.Term {
	t.Helper()
	x, f := Core(text)
	if f != (api.Fault{}) {
		t.Fatalf("%s: %v", text, f)
	}
	return x
}

// becomes holds programs to their terms.
func becomes(t *testing.T, rows ...row) {
	t.Helper()
	for _, r := range rows {
		differs(t, r, written(made(t, r.text)))
	}
}

func differs(t *testing.T, r row, got string) {
	t.Helper()
	if got != r.want {
		t.Errorf("%s\n got %s\nwant %s", r.text, got, r.want)
	}
}

// ahead is what stands ahead of the expressions and patterns of these tests: f has the number 1, E 3, F 4, a 5.
const ahead = "fun f x = f x data t = A | B of int | C of t * t exception E exception F of int val a = 1"

// behind is the term of a declaration that stands behind these, so that its text behind a lead is at the place 100.
func behind(t *testing.T, lead, text string) api.Term {
	t.Helper()
	blanks := strings.Repeat(" ", 100-len(ahead)-len(lead))
	return made(t, ahead+blanks+lead+text).Kids[1].Kids[0].Kids[0].Kids[1]
}

// exps holds expressions at the place 100 to their terms; the first number that they give is 6.
func exps(t *testing.T, rows ...row) {
	t.Helper()
	for _, r := range rows {
		differs(t, r, written(behind(t, "val _ = ", r.text).Kids[0]))
	}
}

// pats holds patterns at the place 100 to what they become; the first number that they give is 7.
func pats(t *testing.T, rows ...row) {
	t.Helper()
	for _, r := range rows {
		differs(t, r, writtenPat(behind(t, "fun g (", r.text+") = 1").Kids[0].Pats[0]))
	}
}
