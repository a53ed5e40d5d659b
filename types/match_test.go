package types

import (
	"math"
	"testing"

	"mlcore/api"
)

func TestP3_5Matches(t *testing.T) {
	whole := arrow(tuple(v(1), eqv(2)), list(v(1)))
	rows := []struct {
		general, special api.Type
		want             string
	}{
		{tInt, tInt, ""}, {list(tInt), list(tInt), ""},
		{v(1), tInt, "1: int"}, {v(1), v(2), "1: 'a [2]"}, {v(1), v(1), "1: 'a [1]"}, {v(1), eqv(1), "1: ''a [1]"}, {eqv(1), eqv(5), "1: ''a [5]"},
		{v(1), list(v(1)), "1: 'a list [1]"},
		{arrow(v(5), v(5)), arrow(list(v(7)), list(v(7))), "5: 'a list [7]"},
		{arrow(v(5), v(4)), arrow(v(4), v(5)), "4: 'a [5]; 5: 'a [4]"},
		{tuple(v(3), v(-1), v(math.MaxInt), v(math.MinInt)), tuple(tInt, tBool, tExn, tInt), tell(math.MinInt) + ": int; -1: bool; 3: int; " + tell(math.MaxInt) + ": exn"},
		{whole, whole, "1: 'a [1]; 2: ''a [2]"},
		{whole, arrow(tuple(arrow(tInt, tInt), ref(tExn)), list(arrow(tInt, tInt))), "1: int -> int; 2: exn ref"},
		{eqv(1), tuple(tInt, list(eqv(3))), "1: int * ''a list [3]"}, {eqv(1), con("t", 1), "1: t"}, {eqv(1), ref(v(1)), "1: 'a ref [1]"},
		{tuple(v(1), eqv(1)), tuple(tInt, tInt), "1: int"}, {tuple(eqv(1), v(1)), tuple(tInt, tInt), "1: int"},
		{con("t", 0, v(1)), con("t", 2, tInt), "1: int"}, {tuple(v(1), v(1)), tuple(con("t", 2), con("t", 0)), "1: t"},
		{tuple(v(1), v(1)), tuple(v(2), eqv(2)), "1: 'a [2]"}, {tuple(v(1), v(1)), tuple(eqv(2), v(2)), "1: ''a [2]"},
		{v(1), wide(api.MaxType), "1: " + Show(wide(api.MaxType))}, {wide(api.MaxType), wide(api.MaxType), ""},
	}
	for _, r := range rows {
		binds, ok := Match(r.general, r.special)
		if got := became(binds); got != r.want || !ok {
			t.Errorf("%v and %v: %v\n got %s\nwant %s", r.general, r.special, ok, got, r.want)
		}
		apart(t, binds, r.general, r.special)
	}
}

func TestP3_5Refuses(t *testing.T) {
	rows := [][2]api.Type{
		{tInt, tBool}, {tInt, v(1)}, {list(v(1)), v(1)}, {list(tInt), list(v(1))},
		{tInt, {Kind: api.TyCon, Name: "int", N: 1, Eq: 2}},
		{tuple(v(1), v(2)), arrow(v(1), v(2))}, {tuple(v(1), v(2)), con("", 0, v(1), v(2))},
		{tuple(v(1), v(2)), tuple(v(1), v(2), v(3))}, {tuple(v(1), v(2), v(3)), tuple(v(1), v(2))}, {con("t", 1, v(1)), con("t", 1)}, {con("t", 1), con("t", 1, v(1))},
		{arrow(v(1), v(1)), arrow(tInt, tBool)}, {arrow(v(1), v(1)), arrow(v(1), v(2))}, {arrow(v(1), v(1)), arrow(v(2), list(v(2)))},
		{tuple(v(1), v(2), v(1)), tuple(tInt, tInt, tBool)},
		{eqv(1), v(1)}, {eqv(1), tExn}, {eqv(1), arrow(tInt, tInt)}, {eqv(1), list(v(2))}, {eqv(1), tuple(tInt, tExn)}, {list(eqv(1)), list(tExn)},
		{tuple(v(1), eqv(1)), tuple(tExn, tExn)}, {tuple(eqv(1), v(1)), tuple(tExn, tExn)}, {tuple(v(2), list(eqv(1)), v(1)), tuple(tInt, list(v(3)), v(3))},
		{tuple(v(1), eqv(1)), tuple(v(2), eqv(2))}, {tuple(eqv(1), v(1)), tuple(eqv(2), v(2))},
		{v(1), {Kind: 4}}, {{Kind: 4}, tInt}, {{Kind: 4}, {Kind: 4}}, {v(1), wide(api.MaxType + 1)}, {{Eq: 2}, tInt}, {v(1), tuple(tInt)}, {con("t", 3), con("t", 2)},
	}
	for _, x := range endless() {
		rows = append(rows, [2]api.Type{v(1), x}, [2]api.Type{x, tInt}, [2]api.Type{x, x})
	}
	for i, r := range rows {
		if l, ok := Match(r[0], r[1]); ok || l != nil {
			t.Errorf("%d: %v %v", i, l, ok)
		}
	}
}

// What a general type becomes is matched by it, and in just one way.
func TestP3_5Random(t *testing.T) {
	r := random{Rand: seeded(50), vars: 6}
	for range 20000 {
		general := r.typ(r.Intn(4))
		by := map[int]api.Type{}
		compared := true
		for _, n := range Variables(general) {
			by[n] = r.typ(r.Intn(3))
			compared = compared && (n%2 == 0 || Equality(by[n]) == 1)
		}
		special := put(general, by)
		binds, ok := Match(general, special)
		if ok != (compared && Proper(special)) || ok && len(binds) != len(by) {
			t.Fatalf("%v and %v: %v %v", general, special, binds, ok)
		}
		for i, b := range binds {
			if tell(b.T) != tell(by[b.N]) || i > 0 && binds[i-1].N >= b.N {
				t.Fatalf("%v and %v: %v", general, special, binds)
			}
		}
		apart(t, binds, general, special)
	}
}

// Match and Solve agree, where the variables of the special type are names.
func TestP3_5Solve(t *testing.T) {
	r := random{Rand: seeded(51), vars: 3}
	names := map[int]api.Type{}
	for n := range r.vars {
		names[n] = con("v"+tell(n), n%2*2)
	}
	found := 0
	for range 60000 {
		general, special := r.typ(r.Intn(3)), put(r.typ(r.Intn(3)), names)
		binds, ok := Match(general, special)
		want, f := Solve(pairs(pair(general, special)))
		if ok != (f.Kind == api.OK) || tell(binds) != tell(want) {
			t.Fatalf("%v and %v: %v %v, want %v", general, special, binds, ok, want)
		}
		if ok {
			found++
		}
	}
	if found < 1000 {
		t.Errorf("only %d", found)
	}
}
