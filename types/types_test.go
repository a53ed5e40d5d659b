package types

import (
	"math"
	"reflect"
	"strings"
	"testing"

	"mlcore/api"
)

// Each kind with each name, number, Eq and number of Args, by the words of P3.1.
func TestP3_1Tops(t *testing.T) {
	for kind := -1; kind <= 5; kind++ {
		for _, n := range []int{0, 1, -1, math.MaxInt, math.MinInt} {
			for _, name := range []string{"", "a", "\x00"} {
				for eq := -1; eq <= 3; eq++ {
					for args := range 5 {
						x := api.Type{Kind: kind, N: n, Name: name, Eq: eq, Args: make([]api.Type, args)}
						bare := name == "" && n == 0 && eq == 0
						want := kind == api.TyVar && name == "" && args == 0 && (eq == 0 || eq == 1) ||
							kind == api.TyCon && (eq == 0 || eq == 1 || eq == 2) ||
							kind == api.TyTuple && bare && args > 1 ||
							kind == api.TyArrow && bare && args == 2
						if Proper(x) != want {
							t.Errorf("%+v: %v", x, !want)
						}
					}
				}
			}
		}
	}
}

func TestP3_1Within(t *testing.T) {
	for _, wrong := range []api.Type{{Kind: -1}, {Kind: 4}, {Eq: 2}, {Name: "a"}, tuple(tInt), con("a", 3)} {
		for _, whole := range []func(api.Type) api.Type{
			func(x api.Type) api.Type { return list(x) },
			func(x api.Type) api.Type { return tuple(tInt, tInt, x) },
			func(x api.Type) api.Type { return tuple(x, tInt) },
			func(x api.Type) api.Type { return arrow(x, tInt) },
			func(x api.Type) api.Type { return arrow(tInt, list(list(x))) },
		} {
			if !Proper(whole(v(3))) {
				t.Errorf("%v is not proper", whole(v(3)))
			}
			if Proper(whole(wrong)) {
				t.Errorf("%v is proper", whole(wrong))
			}
		}
	}
}

func TestP3_1Bound(t *testing.T) {
	for _, make := range []func(int) api.Type{deep, func(n int) api.Type { return wide(n) }, func(n int) api.Type { return arrow(wide(n-3), list(v(1))) }} {
		if !Proper(make(api.MaxType - 1)) {
			t.Error("one less than MaxType parts")
		}
		if x := make(api.MaxType); size(x) != api.MaxType || !Proper(x) {
			t.Error("MaxType parts")
		}
		if Proper(make(api.MaxType + 1)) {
			t.Error("one more than MaxType parts")
		}
	}
	for i, x := range endless() {
		if Proper(x) {
			t.Errorf("%d has an end", i)
		}
	}
}

// Of what is not proper anything may be answered, but it is answered.
func TestP3_2NotProper(t *testing.T) {
	wrong := append(endless(), api.Type{Kind: 9}, api.Type{Kind: api.TyArrow}, api.Type{Kind: api.TyArrow, Args: []api.Type{tInt}}, deep(100000))
	for _, x := range wrong {
		for _, y := range append(wrong, tInt) {
			Alike(x, y)
			Alike(y, x)
		}
		Equality(x)
		Variables(x)
		Show(x)
	}
}

func TestP3_2Alike(t *testing.T) {
	base := arrow(tuple(v(1), con("t", 1, v(2), tInt)), v(1))
	same := []api.Type{
		arrow(tuple(v(1), con("t", 1, v(2), tInt)), v(1)),
		arrow(tuple(eqv(1), con("t", 1, v(2), tInt)), v(1)),
		arrow(tuple(v(1), con("t", 0, eqv(2), con("int", 0))), eqv(1)),
	}
	for i, x := range same {
		if !Alike(base, x) || !Alike(x, base) {
			t.Errorf("%d is not alike", i)
		}
	}
	other := []api.Type{
		v(1),
		arrow(v(1), tuple(v(1), con("t", 1, v(2), tInt))),
		tuple(tuple(v(1), con("t", 1, v(2), tInt)), v(1)),
		arrow(tuple(v(1), con("t", 1, v(2), tInt)), v(2)),
		arrow(tuple(v(1), con("t", 1, tInt, v(2))), v(1)),
		arrow(tuple(v(1), con("t", 1, v(2), tInt), v(1)), v(1)),
		arrow(tuple(v(1), con("t", 1, v(2), tBool)), v(1)),
		arrow(tuple(v(1), con("t", 1, v(2), api.Type{Kind: api.TyCon, Name: "int", N: 1, Eq: 2})), v(1)),
		arrow(tuple(v(1), con("t", 1, v(2))), v(1)),
		arrow(tuple(v(1), con("t", 1, v(2), tInt, tInt)), v(1)),
		arrow(tuple(v(1), con("u", 1, v(2), tInt)), v(1)),
		arrow(tuple(con("", 0), con("t", 1, v(2), tInt)), v(1)),
	}
	for i, x := range other {
		if Alike(base, x) || Alike(x, base) {
			t.Errorf("%d is alike", i)
		}
	}
	if Alike(v(0), con("", 0)) || !Alike(v(math.MinInt), eqv(math.MinInt)) || Alike(v(1), v(-1)) {
		t.Error("variables")
	}
	if !Alike(deep(api.MaxType), deep(api.MaxType)) || Alike(deep(api.MaxType), deep(api.MaxType-1)) {
		t.Error("great ones")
	}
}

// Two types are alike just if they are written the same when nothing says Eq.
func TestP3_2AlikeRandom(t *testing.T) {
	r := random{Rand: seeded(1), vars: 2, mixed: true}
	found := map[bool]int{}
	for range 30000 {
		a, b := r.typ(r.Intn(3)), r.typ(r.Intn(3))
		want := tell(plainEq(a)) == tell(plainEq(b))
		found[want]++
		if Alike(a, b) != want {
			t.Fatalf("%v and %v: %v", a, b, !want)
		}
	}
	if found[true] < 100 {
		t.Errorf("only %d are alike", found[true])
	}
}

func plainEq(t api.Type) api.Type {
	t.Eq = 0
	t.Args = eachAnew(t.Args, plainEq)
	return t
}

func TestP3_2Equality(t *testing.T) {
	rows := []struct {
		t    api.Type
		want int
	}{
		{v(1), 0}, {eqv(1), 1},
		{con("a", 0), 0}, {con("a", 1), 1}, {con("a", 2), 1},
		{con("a", 0, tInt), 0}, {con("a", 0, eqv(1)), 0},
		{con("a", 1, tInt), 1}, {con("a", 1, tInt, v(1)), 0}, {con("a", 1, v(1), tInt), 0}, {con("a", 1, eqv(1), tInt), 1},
		{con("a", 2, tExn), 1}, {con("a", 2, arrow(tInt, tInt)), 1}, {con("a", 2, v(1), v(2)), 1},
		{arrow(tInt, tInt), 0}, {arrow(eqv(1), eqv(1)), 0},
		{tuple(tInt, eqv(2)), 1}, {tuple(tInt, v(2)), 0}, {tuple(tExn, tInt), 0}, {tuple(tInt, tInt, arrow(tInt, tInt)), 0},
		{list(ref(arrow(tInt, tInt))), 1}, {ref(list(tExn)), 1}, {list(list(tExn)), 0}, {list(tuple(tInt, list(eqv(4)))), 1},
		{tuple(eqv(1), v(1)), 0}, {tuple(v(1), eqv(1)), 0},
	}
	for _, r := range rows {
		if got := Equality(r.t); got != r.want {
			t.Errorf("%s: %d", Show(r.t), got)
		}
	}
}

func TestP3_2Variables(t *testing.T) {
	rows := []struct {
		t    api.Type
		want []int
	}{
		{tInt, nil}, {v(0), []int{0}}, {eqv(-7), []int{-7}},
		{arrow(v(9), arrow(eqv(3), v(9))), []int{9, 3}},
		{tuple(list(v(5)), con("e", 1, tInt, v(2), v(5)), v(1), eqv(2), v(math.MinInt)), []int{5, 2, 1, math.MinInt}},
		{arrow(tuple(v(2), v(1)), tuple(v(1), v(0))), []int{2, 1, 0}},
	}
	for _, r := range rows {
		if got := Variables(r.t); !(len(got) == 0 && len(r.want) == 0) && !reflect.DeepEqual(got, r.want) {
			t.Errorf("%v: %v", r.t, got)
		}
	}
	many := con("m", 1)
	for i := range api.MaxType - 1 {
		many.Args = append(many.Args, v(-i*i))
	}
	for i, n := range Variables(many) {
		if n != -i*i {
			t.Fatalf("%d: %d", i, n)
		}
	}
	if len(Variables(many)) != api.MaxType-1 {
		t.Error("too few")
	}
}

// What is handed over is only read.
func TestP3_2OnlyRead(t *testing.T) {
	r := random{Rand: seeded(2), vars: 4, mixed: true, greats: 0.1}
	for range 300 {
		a, b := r.typ(2), r.typ(2)
		l := []api.Pair{{A: a, B: b}, {A: r.typ(1), B: r.typ(1)}, {A: v(1), B: a}}
		before := tell(l)
		Proper(a)
		Alike(a, b)
		Equality(a)
		Variables(a)
		Show(a)
		Match(a, b)
		Solve(l)
		if after := tell(l); after != before {
			t.Fatalf("%s became %s", before, after)
		}
	}
}

// Types with the same parts in the same memory are read as if each were by itself.
func TestP3_2Shared(t *testing.T) {
	args := []api.Type{v(1), list(v(2))}
	x := arrow(tuple(args...), api.Type{Kind: api.TyArrow, Args: args})
	if got := Show(x); got != "'a * 'b list -> 'a -> 'b list" {
		t.Error(got)
	}
	if _, ok := Match(x, x); !ok || !Alike(x, x) || strings.Count(tell(Variables(x)), " ") != 1 {
		t.Error("not as one by itself")
	}
}
