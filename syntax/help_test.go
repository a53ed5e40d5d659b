package syntax

import (
	"strconv"
	"strings"
	"testing"

	"mlcore/api"
)

var kindNames = strings.Fields(`Prog EInt EStr EVar ECon ETuple EList EFn EApp EIf ECase ETry Rule ERaise ELet ESeq
	EAnd EOr EOp EHas PAny PVar PInt PStr PCon PTuple PList PCons PAs PHas YVar YCon YTuple YArrow DVal DFun FBind
	DType DData DBind Con DExn DStruct DSig DOpen SBody SPath GBody GName GVal GType GStruct`)

// show writes all of a tree: kind@place:name#number(kids).
func show(n api.Node) string { return showNode(n, true) }

// shape is a tree without its places.
func shape(n api.Node) string { return showNode(n, false) }

func showNode(n api.Node, places bool) string {
	var b strings.Builder
	showTo(&b, n, places)
	return b.String()
}

func showTo(b *strings.Builder, n api.Node, places bool) {
	b.WriteString(kindNames[n.Kind])
	if places {
		b.WriteString("@" + strconv.Itoa(n.At))
	}
	if n.Name != "" {
		b.WriteString(":" + n.Name)
	}
	if n.N != 0 {
		b.WriteString("#" + strconv.Itoa(n.N))
	}
	for i, k := range n.Kids {
		b.WriteString(map[bool]string{true: "(", false: " "}[i == 0])
		showTo(b, k, places)
	}
	if len(n.Kids) > 0 {
		b.WriteString(")")
	}
}

type parser struct {
	name string
	read func(string) (api.Node, api.Fault)
}

var (
	programs = parser{"program", Parse}
	exps     = parser{"exp", ParseExp}
	pats     = parser{"pat", ParsePat}
	types    = parser{"type", ParseType}
	parsers  = []parser{programs, exps, pats, types}
)

// reads holds a text to its tree.
func (p parser) reads(t *testing.T, text, want string) {
	t.Helper()
	n, f := p.read(text)
	if got := show(n); f != (api.Fault{}) || got != want {
		t.Errorf("%s %q: %v\n got %s\nwant %s", p.name, text, f, got, want)
	}
}

// fails holds a text to its fault; with one the tree is zero.
func (p parser) fails(t *testing.T, text string, kind api.Errno, at int) {
	t.Helper()
	n, f := p.read(text)
	if f != (api.Fault{Kind: kind, At: at}) {
		t.Errorf("%s %.200q: %v, want %v at %d", p.name, text, f, kind, at)
	}
	if f.Kind != api.OK && (show(n) != "Prog@0" || n.Kids != nil) {
		t.Errorf("%s %.200q: with the fault comes %s", p.name, text, show(n))
	}
}

// stops holds texts in which a `?` marks the token that cannot stand where it does.
func (p parser) stops(t *testing.T, marked ...string) {
	t.Helper()
	for _, m := range marked {
		at := strings.Index(m, "?")
		p.fails(t, m[:at]+m[at+1:], api.ErrSyntax, at)
	}
}

// prints holds a text to what Print makes of its tree.
func (p parser) prints(t *testing.T, text, want string) {
	t.Helper()
	n, f := p.read(text)
	if got := Print(n); f != (api.Fault{}) || got != want {
		t.Errorf("%s %q: %v\n got %s\nwant %s", p.name, text, f, got, want)
	}
}
