package plain

import (
	"strconv"
	"strings"
	"testing"

	"mlcore/api"
)

// row is a text, and how its plain term is written.
type row struct{ text, want string }

// writer writes plain terms. Variables are called v1, v2 and so on, as they come: which
// numbers they have does not matter.
type writer struct{ names map[int]string }

func (w *writer) name(n int) string {
	if n < 0 {
		return []string{"Match", "Bind", "Overflow", "Div", "Bounds", "Size"}[-1-n]
	}
	if w.names[n] == "" {
		w.names[n] = "v" + strconv.Itoa(len(w.names)+1)
	}
	return w.names[n]
}

func (w *writer) term(x api.Term) string {
	l := []string{w.head(x)}
	for _, n := range x.Ns {
		l = append(l, w.name(n))
	}
	for _, p := range x.Pats {
		l = append(l, w.name(p.N))
	}
	for _, k := range x.Kids {
		l = append(l, w.term(k))
	}
	if len(l) == 1 {
		return l[0]
	}
	return "(" + strings.Join(l, " ") + ")"
}

// head is what stands ahead of a term's variables and kids.
func (w *writer) head(x api.Term) string {
	n := strconv.Itoa(x.N)
	switch x.Op {
	case api.TInt:
		return n
	case api.TStr:
		return strconv.Quote(x.S)
	case api.TVar:
		return w.name(x.N)
	case api.TBase, api.TOp:
		return x.S
	case api.TNewExn:
		return "exception " + x.S + "/" + strconv.Itoa(x.Of) + " " + w.name(x.N)
	case api.TIs:
		return []string{"is", "isblock"}[x.Of] + " " + n
	case api.TField:
		return "field " + n
	case api.TBlock:
		return "block " + n
	}
	return map[int]string{
		api.TFn: "fn", api.TApp: "app", api.TIf: "if", api.TTry: "try", api.TRaise: "raise", api.TLet: "let",
		api.TFuns: "funs", api.TSeq: "seq", api.TSame: "same", api.TCatch: "catch", api.TFail: "fail",
	}[x.Op]
}

func written(x api.Term) string { return (&writer{map[int]string{}}).term(x) }

// termOf is the plain term of a text that is a program.
func termOf(t *testing.T, text string) api.Term {
	t.Helper()
	x, f := Plain(text)
	if f != (api.Fault{}) {
		t.Fatalf("%s: %v", text, f)
	}
	return x
}

// becomes holds programs to their plain terms.
func becomes(t *testing.T, rows ...row) {
	t.Helper()
	for _, r := range rows {
		if got := written(termOf(t, r.text)); got != r.want {
			t.Errorf("%s\n got %s\nwant %s", r.text, got, r.want)
		}
	}
}

// exps holds expressions to their plain terms.
func exps(t *testing.T, rows ...row) {
	t.Helper()
	for _, r := range rows {
		x := termOf(t, "data t = A | B of int | C of t * t data u = U of int val it = "+r.text)
		if got := written(x.Kids[0]); got != r.want {
			t.Errorf("%s\n got %s\nwant %s", r.text, got, r.want)
		}
	}
}
