package flat

import (
	"strconv"
	"strings"
	"testing"

	"mlcore/api"
)

// row is a text, and how its flat program is written.
type row struct{ text, want string }

// writtenFun writes a function as what it catches, its slots and its body: 0/2 (store s0 1 s0).
func writtenFun(f api.Fun) string {
	return strconv.Itoa(f.Free) + "/" + strconv.Itoa(f.Slots) + " " + writtenTerm(f.Body)
}

func written(p api.Flat) string {
	var l []string
	for _, f := range p.Funs {
		l = append(l, writtenFun(f))
	}
	return strings.Join(l, "; ")
}

func writtenTerm(x api.Term) string {
	l := []string{head(x)}
	for _, n := range x.Ns {
		l = append(l, "s"+strconv.Itoa(n))
	}
	for _, k := range x.Kids {
		l = append(l, writtenTerm(k))
	}
	if len(l) == 1 && x.Op != api.TMake {
		return l[0]
	}
	return "(" + strings.Join(l, " ") + ")"
}

// head is what stands ahead of a term's kids.
func head(x api.Term) string {
	n := strconv.Itoa(x.N)
	switch x.Op {
	case api.TInt:
		return n
	case api.TStr:
		return strconv.Quote(x.S)
	case api.TVar:
		return []string{"Match", "Bind", "Overflow", "Div", "Bounds", "Size"}[-1-x.N]
	case api.TBase, api.TOp:
		return x.S
	case api.TNewExn:
		return "exception " + x.S + "/" + strconv.Itoa(x.Of) + " s" + n
	case api.TSlot:
		return "s" + n
	case api.TFree:
		return "f" + n
	}
	word := map[int]string{
		api.TApp: "app", api.TIf: "if", api.TTry: "try s", api.TRaise: "raise", api.TSeq: "seq", api.TSame: "same", api.TCatch: "catch", api.TFail: "fail", api.TIs: "is ", api.TField: "field ", api.TBlock: "block ", api.TArg: "arg", api.TMake: "make ", api.TStore: "store s", api.TFix: "fix",
	}[x.Op]
	switch x.Op {
	case api.TTry, api.TIs, api.TField, api.TBlock, api.TMake, api.TStore:
		return word + n
	}
	return word
}

// programOf is the flat program of a text that is a program.
func programOf(t *testing.T, text string) api.Flat {
	t.Helper()
	p, f := Flat(text)
	if f != (api.Fault{}) {
		t.Fatalf("%s: %v", text, f)
	}
	return p
}

// becomes holds programs to their flat programs.
func becomes(t *testing.T, rows ...row) {
	t.Helper()
	for _, r := range rows {
		if got := written(programOf(t, r.text)); got != r.want {
			t.Errorf("%s\n got %s\nwant %s", r.text, got, r.want)
		}
	}
}
