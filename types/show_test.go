package types

import (
	"strconv"
	"strings"
	"testing"

	"mlcore/api"
	"mlcore/syntax"
)

func TestP3_3Show(t *testing.T) {
	f := arrow(v(1), v(2))
	p := tuple(v(1), v(2))
	rows := []struct {
		t    api.Type
		want string
	}{
		{arrow(v(9), arrow(eqv(3), v(9))), "'a -> ''b -> 'a"},
		{tuple(list(arrow(tInt, v(1))), tInt), "(int -> 'a) list * int"},
		{con("e", 1, v(4), tInt), "('a, int) e"},
		{ref(tuple(tInt, tInt)), "(int * int) ref"},
		{v(7), "'a"}, {eqv(7), "''a"}, {tInt, "int"},
		{tuple(v(1), eqv(1), v(0), eqv(0)), "'a * ''a * 'b * ''b"},
		{arrow(f, v(3)), "('a -> 'b) -> 'c"}, {arrow(v(3), f), "'a -> 'b -> 'c"},
		{tuple(f, v(3)), "('a -> 'b) * 'c"}, {tuple(v(3), f), "'a * ('b -> 'c)"},
		{list(f), "('a -> 'b) list"}, {con("e", 1, f, f), "('a -> 'b, 'a -> 'b) e"},
		{arrow(p, v(3)), "'a * 'b -> 'c"}, {arrow(v(3), p), "'a -> 'b * 'c"},
		{tuple(p, v(3)), "('a * 'b) * 'c"}, {tuple(v(3), v(1), p), "'a * 'b * ('b * 'c)"},
		{list(p), "('a * 'b) list"}, {con("e", 1, p, tInt, p), "('a * 'b, int, 'a * 'b) e"},
		{list(list(tInt)), "int list list"}, {list(con("e", 0, v(1), v(2))), "('a, 'b) e list"},
		{con("e", 0, list(v(1)), tInt), "('a list, int) e"},
		{arrow(arrow(f, f), f), "(('a -> 'b) -> 'a -> 'b) -> 'a -> 'b"},
		{api.Type{Kind: api.TyCon, N: 5, Name: "S.t", Eq: 1}, "S.t"},
		{con("a b\n", 1, tInt), "int a b\n"}, {con("", 1), ""}, {con("", 1, tInt), "int "},
	}
	for _, r := range rows {
		if got := Show(r.t); got != r.want {
			t.Errorf("want %q\n got %q", r.want, got)
		}
	}
}

func TestP3_3Names(t *testing.T) {
	all := con("x", 1)
	var want []string
	for i := range api.MaxType - 1 {
		all.Args = append(all.Args, api.Type{N: 1000 - i, Eq: i % 2})
		name := strings.Repeat("'", 1+i%2) + string(rune('a'+i%26))
		if i >= 26 {
			name += strconv.Itoa(i / 26)
		}
		want = append(want, name)
	}
	if got := Show(all); got != "("+strings.Join(want, ", ")+") x" {
		t.Error(got)
	}
	if wide := Show(tuple(all.Args[:30]...)); !strings.HasSuffix(wide, " * 'y * ''z * 'a1 * ''b1 * 'c1 * ''d1") {
		t.Error(wide)
	}
}

// node is the tree that a type's text is to be read as.
func node(t api.Type, places map[int]int) api.Node {
	kinds := map[int]int{api.TyVar: api.YVar, api.TyCon: api.YCon, api.TyTuple: api.YTuple, api.TyArrow: api.YArrow}
	n := api.Node{Kind: kinds[t.Kind], Name: t.Name}
	if t.Kind == api.TyVar {
		n.Name = strings.Repeat("'", 1+t.Eq) + string(rune('a'+places[t.N]))
	}
	for _, a := range t.Args {
		n.Kids = append(n.Kids, node(a, places))
	}
	return n
}

func noBlanks(s string) string { return strings.ReplaceAll(s, " ", "") }

// What Show writes is what the writer of trees writes, but for blanks, and is read as the same tree.
func TestP3_3Trees(t *testing.T) {
	r := random{Rand: seeded(3), vars: 5, mixed: true}
	for range 3000 {
		x := r.typ(r.Intn(6))
		places := map[int]int{}
		for i, n := range Variables(x) {
			places[n] = i
		}
		text := Show(x)
		want := syntax.Print(node(x, places))
		read, f := syntax.ParseType(text)
		if noBlanks(want) != noBlanks(text) || f != (api.Fault{}) || syntax.Print(read) != want {
			t.Fatalf("%s: %v, want %s", text, f, want)
		}
	}
}
