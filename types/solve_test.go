package types

import (
	"math"
	"strings"
	"testing"

	"mlcore/api"
)

func pair(a, b api.Type) api.Pair { return api.Pair{A: a, B: b} }

func pairs(l ...api.Pair) []api.Pair { return l }

// became writes binds: the variable's number and Show of what it stands for, with variables by their numbers.
func became(binds []api.Bind) string {
	var l []string
	for _, b := range binds {
		l = append(l, numbered(b.T, b.N))
	}
	return strings.Join(l, "; ")
}

func numbered(t api.Type, n int) string {
	text := tell(n) + ": " + Show(t)
	if of := Variables(t); len(of) > 0 {
		text += " " + tell(of)
	}
	return text
}

func TestP3_4Solutions(t *testing.T) {
	rows := []struct {
		l    []api.Pair
		want string
	}{
		{nil, ""},
		{pairs(pair(tInt, tInt)), ""},
		{pairs(pair(v(1), v(1))), "1: 'a [1]"},
		{pairs(pair(v(1), eqv(1))), "1: ''a [1]"},
		{pairs(pair(v(1), v(2))), "1: 'a [2]; 2: 'a [2]"},
		{pairs(pair(v(2), v(1))), "1: 'a [1]; 2: 'a [1]"},
		{pairs(pair(v(1), tInt)), "1: int"},
		{pairs(pair(tInt, v(1))), "1: int"},
		{pairs(pair(list(v(1)), list(v(2)))), "1: 'a [2]; 2: 'a [2]"},
		{pairs(pair(v(1), v(2)), pair(v(1), v(3))), "1: 'a [3]; 2: 'a [3]; 3: 'a [3]"},
		{pairs(pair(v(1), v(2)), pair(v(3), v(1))), "1: 'a [2]; 2: 'a [2]; 3: 'a [2]"},
		{pairs(pair(v(1), v(2)), pair(v(2), v(1))), "1: 'a [2]; 2: 'a [2]"},
		{pairs(pair(v(math.MaxInt), v(math.MinInt)), pair(v(0), tInt), pair(v(-1), tInt)),
			tell(math.MinInt) + ": 'a [" + tell(math.MinInt) + "]; -1: int; 0: int; " + tell(math.MaxInt) + ": 'a [" + tell(math.MinInt) + "]"},
		{pairs(pair(arrow(v(1), tInt), arrow(tBool, v(2)))), "1: bool; 2: int"},
		{pairs(pair(v(1), list(v(2))), pair(v(2), tuple(v(3), v(4))), pair(v(4), tInt)),
			"1: ('a * int) list [3]; 2: 'a * int [3]; 3: 'a [3]; 4: int"},
		{pairs(pair(tuple(v(1), v(1)), tuple(list(v(2)), list(list(v(3)))))), "1: 'a list list [3]; 2: 'a list [3]; 3: 'a [3]"},
		{pairs(pair(con("t", 0), con("t", 2)), pair(v(1), con("t", 0, v(2))), pair(v(1), con("t", 2, v(3)))),
			"1: 'a t [3]; 2: 'a [3]; 3: 'a [3]"},
		{pairs(pair(v(1), con("t", 0)), pair(v(1), con("t", 2)), pair(con("u", 0), con("u", 1))), "1: t"},
	}
	for _, r := range rows {
		binds, f := solved(t, r.l)
		if got := became(binds); got != r.want || f != (api.Fault{}) {
			t.Errorf("%v: %v\n got %s\nwant %s", r.l, f, got, r.want)
		}
	}
}

// Which variables are of compared types in the end.
func TestP3_4Compared(t *testing.T) {
	rows := []struct {
		l    []api.Pair
		want string
	}{
		{pairs(pair(eqv(1), v(2))), "1: ''a [2]; 2: ''a [2]"},
		{pairs(pair(v(1), eqv(2))), "1: ''a [2]; 2: ''a [2]"},
		{pairs(pair(v(2), eqv(1)), pair(v(3), v(3))), "1: ''a [1]; 2: ''a [1]; 3: 'a [3]"},
		{pairs(pair(v(1), v(2)), pair(v(1), v(3)), pair(tInt, tInt), pair(eqv(1), v(4))), "1: ''a [4]; 2: ''a [4]; 3: ''a [4]; 4: ''a [4]"},
		{pairs(pair(eqv(1), list(tuple(v(2), tInt, v(3))))), "1: (''a * int * ''b) list [2 3]; 2: ''a [2]; 3: ''a [3]"},
		{pairs(pair(list(v(2)), eqv(1))), "1: ''a list [2]; 2: ''a [2]"},
		{pairs(pair(eqv(1), ref(v(2)))), "1: 'a ref [2]; 2: 'a [2]"},
		{pairs(pair(eqv(1), tuple(ref(arrow(v(2), v(3))), v(4)))), "1: ('a -> 'b) ref * ''c [2 3 4]; 2: 'a [2]; 3: 'a [3]; 4: ''a [4]"},
		{pairs(pair(v(2), list(v(3))), pair(eqv(1), tuple(v(2), v(2)))), "1: ''a list * ''a list [3]; 2: ''a list [3]; 3: ''a [3]"},
		{pairs(pair(v(1), v(2)), pair(v(5), arrow(v(1), eqv(1)))), "1: ''a [2]; 2: ''a [2]; 5: ''a -> ''a [2]"},
		{pairs(pair(eqv(1), con("t", 1))), "1: t"},
		{pairs(pair(eqv(1), con("t", 1)), pair(v(1), con("t", 0))), "1: t"},
	}
	for _, r := range rows {
		binds, f := solved(t, r.l)
		if got := became(binds); got != r.want || f != (api.Fault{}) {
			t.Errorf("%v: %v\n got %s\nwant %s", r.l, f, got, r.want)
		}
	}
}

func TestP3_4Faults(t *testing.T) {
	fn := arrow(tInt, tInt)
	ok := pair(tInt, tInt)
	rows := []struct {
		name string
		l    []api.Pair
		kind api.Errno
		at   int
	}{
		{"not proper", pairs(pair(api.Type{Kind: 9}, tInt)), api.ErrArg, 0},
		{"not proper, second", pairs(ok, pair(tInt, tuple(tInt))), api.ErrArg, 1},
		{"not proper, ahead of others", pairs(pair(tInt, tBool), pair(v(1), list(v(1))), pair(tInt, api.Type{Eq: 2})), api.ErrArg, 2},
		{"not proper twice", pairs(ok, pair(api.Type{Eq: 3}, tInt), pair(api.Type{Eq: 2}, tInt)), api.ErrArg, 1},
		{"too great a pair", pairs(ok, pair(v(1), wide(api.MaxType+1))), api.ErrArg, 1},

		{"kind", pairs(ok, pair(fn, tuple(tInt, tInt))), api.ErrType, 1},
		{"kind of a name", pairs(pair(con("", 0, tInt, tInt), tuple(tInt, tInt))), api.ErrType, 0},
		{"name", pairs(ok, ok, pair(tInt, tBool)), api.ErrType, 2},
		{"number", pairs(pair(tInt, api.Type{Kind: api.TyCon, Name: "int", N: 1, Eq: 2})), api.ErrType, 0},
		{"args", pairs(pair(con("t", 1, tInt), con("t", 1))), api.ErrType, 0},
		{"product's args", pairs(pair(tuple(v(1), v(2)), tuple(v(3), v(4), v(5)))), api.ErrType, 0},
		{"within", pairs(pair(list(list(tInt)), list(list(tBool)))), api.ErrType, 0},
		{"by what stands for it", pairs(pair(v(1), tInt), pair(v(2), v(1)), pair(v(2), tBool)), api.ErrType, 2},

		{"circle", pairs(pair(v(1), list(v(1)))), api.ErrCircle, 0},
		{"circle, second", pairs(pair(list(v(1)), v(1))), api.ErrCircle, 0},
		{"circle of two", pairs(pair(v(1), list(v(2))), pair(v(2), list(v(1)))), api.ErrCircle, 1},
		{"circle by a chain", pairs(pair(v(1), v(2)), pair(v(3), arrow(tInt, v(2))), pair(v(1), v(3))), api.ErrCircle, 2},
		{"circle in one pair", pairs(pair(tuple(v(1), v(2)), tuple(list(v(2)), list(v(1))))), api.ErrCircle, 0},
		{"circle in what is always compared", pairs(pair(eqv(1), ref(v(1)))), api.ErrCircle, 0},
		{"circle ahead of compared", pairs(pair(eqv(1), arrow(tInt, v(1)))), api.ErrCircle, 0},

		{"arrow not compared", pairs(ok, pair(eqv(1), fn)), api.ErrEqual, 1},
		{"not compared, second", pairs(pair(fn, eqv(1))), api.ErrEqual, 0},
		{"never compared", pairs(pair(eqv(1), con("t", 0, tInt))), api.ErrEqual, 0},
		{"not compared within", pairs(pair(eqv(1), list(tuple(tInt, tExn)))), api.ErrEqual, 0},
		{"not compared by what stands within", pairs(pair(v(2), fn), pair(eqv(1), list(v(2)))), api.ErrEqual, 1},
		{"compared from the beginning", pairs(pair(v(1), tExn), pair(list(eqv(1)), v(2))), api.ErrEqual, 0},
		{"compared from the beginning, within", pairs(pair(v(1), tExn), pair(tInt, tBool), pair(v(3), arrow(fn, ref(eqv(1))))), api.ErrEqual, 0},
		{"compared by another", pairs(pair(eqv(1), list(v(2))), pair(v(2), fn)), api.ErrEqual, 1},
		{"compared by a chain", pairs(pair(eqv(1), v(2)), pair(v(2), v(3)), pair(v(3), fn)), api.ErrEqual, 2},

		{"from the left: type", pairs(pair(tuple(tInt, v(1)), tuple(tBool, list(v(1))))), api.ErrType, 0},
		{"from the left: circle", pairs(pair(tuple(v(1), tInt), tuple(list(v(1)), tBool))), api.ErrCircle, 0},
		{"from the left: compared", pairs(pair(tuple(eqv(1), tInt), tuple(fn, tBool))), api.ErrEqual, 0},
		{"the first pair", pairs(ok, pair(v(1), list(v(1))), pair(tInt, tBool)), api.ErrCircle, 1},
	}
	for _, r := range rows {
		l, f := Solve(r.l)
		if f != (api.Fault{Kind: r.kind, At: r.at}) || len(l) != 0 {
			t.Errorf("%s: %v %v", r.name, l, f)
		}
		solved(t, r.l)
	}
}

// doubles are pairs that make each variable from 1 on two of the one before it: variable n has 2^(n+1)-1 parts.
func doubles(n int) []api.Pair {
	var l []api.Pair
	for i := range n {
		l = append(l, pair(v(i+1), tuple(v(i), v(i))))
	}
	return l
}

// halves are the same pairs from the end: each of them is small, and the last variable is great only at the end.
func halves(n int) []api.Pair {
	l := doubles(n)
	for i := range n / 2 {
		l[i], l[n-1-i] = l[n-1-i], l[i]
	}
	return l
}

func TestP3_4Bounds(t *testing.T) {
	const most = api.MaxType
	// hidden stands for a type of so many parts, which no pair shows by itself.
	hidden := func(n, parts int) []api.Pair { return pairs(pair(v(n), list(v(n+1))), pair(v(n+1), wide(parts-1))) }
	with := func(l []api.Pair, more ...api.Pair) []api.Pair { return append(l, more...) }
	rows := []struct {
		name string
		l    []api.Pair
		kind api.Errno
		at   int
	}{
		{"doubles", doubles(7), api.OK, 0},
		{"doubles, too great", doubles(8), api.ErrBig, 7},
		{"doubles, the other way", pairs(append(doubles(7), pair(tuple(v(7), v(7)), v(8)))...), api.ErrBig, 7},
		{"halves", halves(7), api.OK, 0},
		{"halves, too great", halves(8), api.ErrBig, 8},
		{"halves, far too great", halves(1000), api.ErrBig, 1000},
		{"halves, then used", with(halves(200), pair(v(1), v(1)), pair(v(200), v(201))), api.ErrBig, 201},

		{"all the parts", pairs(pair(wide(most, v(1)), wide(most))), api.OK, 0},
		{"a variable for all the parts", pairs(pair(v(1), wide(most)), pair(wide(most), v(1))), api.OK, 0},
		{"first is as great as may be", with(hidden(1, most), pair(v(1), v(9))), api.OK, 0},
		{"first too great", with(hidden(1, most+1), pair(v(1), v(9))), api.ErrBig, 2},
		{"second is as great as may be", with(hidden(1, most), pair(v(9), v(1))), api.OK, 0},
		{"second too great", with(hidden(1, most+1), pair(v(9), v(1))), api.ErrBig, 2},
		{"end is as great as may be", hidden(1, most), api.OK, 0},
		{"end too great", hidden(1, most+1), api.ErrBig, 2},
		{"end too great by one of several", with(hidden(5, most+1), pair(v(1), tInt), pair(v(9), tInt)), api.ErrBig, 4},

		{"the same variable, too great", with(hidden(1, most+1), pair(v(1), v(1))), api.ErrBig, 2},
		{"ahead of type", with(hidden(1, most+1), pair(v(1), tInt)), api.ErrBig, 2},
		{"ahead of type, second", with(hidden(1, most+1), pair(tInt, v(1))), api.ErrBig, 2},
		{"ahead of circle", with(hidden(1, most), pair(v(3), tuple(v(1), v(3)))), api.ErrBig, 2},
		{"ahead of compared", with(hidden(1, most), pair(eqv(3), arrow(v(1), v(1)))), api.ErrBig, 2},
		{"whole ahead of its parts", with(hidden(1, most), pair(tuple(tInt, v(1)), tuple(tBool, v(4)))), api.ErrBig, 2},

		{"greater by an arg to its left", pairs(pair(tuple(v(1), v(2), wide(150, v(1))), tuple(wide(200), tInt, v(3)))), api.OK, 0},
		{"too great by an arg to its left", pairs(pair(tuple(v(1), wide(250, v(1))), tuple(wide(200), v(3)))), api.ErrBig, 0},
		{"too great by an arg to its left, second", pairs(pair(tuple(v(1), v(3)), tuple(wide(200), wide(180, v(1), v(1))))), api.ErrBig, 0},
		{"just not too great by an arg to its left", pairs(pair(tuple(v(1), wide(202, v(1))), tuple(wide(199), v(3)))), api.OK, 0},
		{"just too great by an arg to its left", pairs(pair(tuple(v(1), wide(203, v(1))), tuple(wide(199), v(3)))), api.ErrBig, 0},
		{"too great ahead of type, by an arg to its left", pairs(pair(tuple(v(1), list(wide(250, v(1)))), tuple(wide(140), list(tInt)))), api.ErrType, 0},
		{"type, though the whole is too great by now", pairs(pair(tuple(v(1), v(1), v(1), tInt), tuple(wide(300), v(2), v(3), tBool))), api.ErrType, 0},
		{"too great far within", pairs(pair(list(tuple(tuple(v(1), tInt), list(list(wide(250, v(1)))))), list(tuple(tuple(wide(160), tInt), list(list(v(2))))))), api.ErrBig, 0},
	}
	for _, r := range rows {
		l, f := solved(t, r.l)
		if f != (api.Fault{Kind: r.kind, At: r.at}) || (len(l) == 0) != (r.kind != api.OK) {
			t.Errorf("%s: %v", r.name, f)
		}
	}
}

func TestP3_4Endless(t *testing.T) {
	for i, x := range endless() {
		for _, p := range pairs(pair(x, tInt), pair(tInt, x), pair(x, x), pair(v(1), x)) {
			if l, f := Solve(pairs(pair(tInt, tBool), p)); f != (api.Fault{Kind: api.ErrArg, At: 1}) || l != nil {
				t.Errorf("%d: %v %v", i, l, f)
			}
		}
	}
}

// Long chains and many pairs: far too long, if the way were gone anew for each pair.
func TestP3_4Long(t *testing.T) {
	const n = 200000
	var up, down, star, back []api.Pair
	for i := range n {
		up = append(up, pair(v(i), v(i+1)))
		down = append(down, pair(v(n-i), v(n-i-1)))
		star = append(star, pair(v(0), v(i)))
		back = append(back, pair(v(i+1), v(i)))
	}
	for i := range n {
		up = append(up, pair(v(0), v(i%7)))
	}
	for i, l := range [][]api.Pair{up, down, star, back} {
		binds, f := Solve(l)
		if f != (api.Fault{}) {
			t.Fatalf("%d: %v", i, f)
		}
		for _, b := range binds {
			if b.T.Kind != api.TyVar || b.T.N != binds[0].T.N {
				t.Fatalf("%d: %v", i, b)
			}
		}
	}
	var great []api.Pair
	for range 2000 {
		great = append(great, pair(deep(api.MaxType), deep(api.MaxType)))
	}
	if l, f := Solve(great); len(l) != 0 || f != (api.Fault{}) {
		t.Errorf("%v %v", l, f)
	}
}

// An empty list of an argument may have room behind it, which is not handed on.
func TestP3_4NewMemory(t *testing.T) {
	room := make([]api.Type, 0, 4)
	open := api.Type{Kind: api.TyVar, N: 2, Args: room}
	bare := api.Type{Kind: api.TyCon, Name: "t", Args: room}
	pair := arrow(list(open), tuple(bare, bare))
	binds, f := Solve([]api.Pair{{A: v(1), B: pair}, {A: v(3), B: tuple(v(1), v(1))}, {A: v(4), B: open}})
	if f != (api.Fault{}) || len(binds) != 4 {
		t.Fatal(binds, f)
	}
	apart(t, binds, pair, open)
	binds, ok := Match(tuple(v(1), v(2), v(3), v(3)), tuple(pair, pair, open, open))
	if !ok || len(binds) != 3 {
		t.Fatal(binds)
	}
	apart(t, binds, pair, open)
}

// The same pairs have the same answer, time after time.
func TestP3_4Again(t *testing.T) {
	r := random{Rand: seeded(40), vars: 20, mixed: true, greats: 0.1}
	for range 200 {
		l := r.pairs()
		binds, f := Solve(l)
		for range 5 {
			if again, g := Solve(l); f != g || tell(binds) != tell(again) {
				t.Fatalf("%v: %v %v, then %v %v", l, binds, f, again, g)
			}
		}
	}
}

// A solver takes pairs as they come, and tells how it stands at any time.
func TestP3_4Solver(t *testing.T) {
	s := NewSolver()
	a, b, c := s.Fresh(0), s.Fresh(1), s.Fresh(0)
	if a.N == b.N || b.N == c.N || a.N == c.N {
		t.Error(a, b, c)
	}
	steps := []struct {
		one, two api.Type
		kind     api.Errno
		shows    string // what a is then
	}{
		{a, a, api.OK, "'a"},
		{a, list(b), api.OK, "''a list"},
		{b, tuple(c, tInt), api.OK, "(''a * int) list"},
		{c, arrow(tInt, tInt), api.ErrEqual, "(''a * int) list"},
		{c, list(a), api.ErrCircle, "(''a * int) list"},
		{a, tInt, api.ErrType, "(''a * int) list"},
		{list(tuple(tBool, tInt)), a, api.OK, "(bool * int) list"},
	}
	for _, x := range steps {
		if kind := s.Same(x.one, x.two); kind != x.kind || Show(s.Replace(a)) != x.shows {
			t.Errorf("%v = %v: %v %s, want %v %s", x.one, x.two, kind, Show(s.Replace(a)), x.kind, x.shows)
		}
	}
	if top := s.Top(a); top.Kind != api.TyCon || top.Name != "list" {
		t.Error(top)
	}
	if !s.Fits(a) || s.Fits(wide(api.MaxType+1)) || !s.Fits(wide(api.MaxType)) {
		t.Error("Fits")
	}
}
