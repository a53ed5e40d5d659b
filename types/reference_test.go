package types

import (
	"math"
	"slices"
	"sort"
	"testing"

	"mlcore/api"
)

// slow follows P3.4's words one by one: whatever is looked at is written out first with all variables replaced.
type slow struct {
	bound map[int]api.Type
	eq    map[int]bool
}

func slowSolve(l []api.Pair) ([]api.Bind, api.Fault) {
	for i, p := range l {
		if !Proper(p.A) || !Proper(p.B) {
			return nil, api.Fault{Kind: api.ErrArg, At: i}
		}
	}
	s := slow{map[int]api.Type{}, map[int]bool{}}
	var all []int
	for _, p := range l {
		both := tuple(p.A, p.B)
		s.says(both)
		all = append(all, variablesOf(both)...)
	}
	for i, p := range l {
		if kind := s.same(p.A, p.B); kind != api.OK {
			return nil, api.Fault{Kind: kind, At: i}
		}
	}
	sort.Ints(all)
	var binds []api.Bind
	for _, n := range slices.Compact(all) {
		if s.size(v(n)) > api.MaxType {
			return nil, api.Fault{Kind: api.ErrBig, At: len(l)}
		}
		binds = append(binds, api.Bind{N: n, T: s.whole(v(n))})
	}
	return binds, api.Fault{}
}

func (s slow) says(t api.Type) {
	if t.Kind == api.TyVar && t.Eq == 1 {
		s.eq[t.N] = true
	}
	for _, a := range t.Args {
		s.says(a)
	}
}

// variablesOf has a variable as often as it stands in a type.
func variablesOf(t api.Type) []int {
	if t.Kind == api.TyVar {
		return []int{t.N}
	}
	var l []int
	for _, a := range t.Args {
		l = append(l, variablesOf(a)...)
	}
	return l
}

// size is a type's parts with its variables replaced; a float, since there may be very many.
func (s slow) size(t api.Type) float64 { return s.sizeIn(t, map[int]float64{}) }

func (s slow) sizeIn(t api.Type, known map[int]float64) float64 {
	if b, ok := s.bound[t.N]; t.Kind == api.TyVar && ok {
		if _, ok := known[t.N]; !ok {
			known[t.N] = s.sizeIn(b, known)
		}
		return known[t.N]
	}
	n := 1.0
	for _, a := range t.Args {
		n += s.sizeIn(a, known)
	}
	return n
}

func (s slow) whole(t api.Type) api.Type {
	if b, ok := s.bound[t.N]; t.Kind == api.TyVar && ok {
		return s.whole(b)
	}
	w := api.Type{Kind: t.Kind, N: t.N, Name: t.Name, Eq: t.Eq}
	if t.Kind == api.TyVar {
		w.Eq = map[bool]int{true: 1}[s.eq[t.N]]
	}
	for _, a := range t.Args {
		w.Args = append(w.Args, s.whole(a))
	}
	return w
}

func (s slow) same(a, b api.Type) api.Errno {
	if s.size(a) > api.MaxType || s.size(b) > api.MaxType {
		return api.ErrBig
	}
	a, b = s.whole(a), s.whole(b)
	if a.Kind == api.TyVar && b.Kind == api.TyVar && a.N == b.N {
		return api.OK
	}
	if a.Kind != api.TyVar && b.Kind == api.TyVar {
		a, b = b, a
	}
	if a.Kind == api.TyVar {
		if slices.Contains(variablesOf(b), a.N) {
			return api.ErrCircle
		}
		if s.eq[a.N] && !s.compare(b) {
			return api.ErrEqual
		}
		s.bound[a.N] = b
		return api.OK
	}
	if a.Kind != b.Kind || a.Name != b.Name || a.N != b.N || len(a.Args) != len(b.Args) {
		return api.ErrType
	}
	for i := range a.Args {
		if kind := s.same(a.Args[i], b.Args[i]); kind != api.OK {
			return kind
		}
	}
	return api.OK
}

func (s slow) compare(t api.Type) bool {
	if t.Kind == api.TyVar {
		s.eq[t.N] = true
		return true
	}
	if t.Kind == api.TyArrow || t.Kind == api.TyCon && t.Eq == 0 {
		return false
	}
	for _, a := range t.Args {
		if t.Eq != 2 && !s.compare(a) {
			return false
		}
	}
	return true
}

// solved holds Solve to the words of the promise, and its answer to be new memory.
func solved(t *testing.T, l []api.Pair) ([]api.Bind, api.Fault) {
	t.Helper()
	binds, f := Solve(l)
	want, fault := slowSolve(l)
	if f != fault || tell(binds) != tell(want) {
		t.Fatalf("%v:\n got %v %v\nwant %v %v", l, binds, f, want, fault)
	}
	var args []api.Type
	for _, p := range l {
		args = append(args, p.A, p.B)
	}
	apart(t, binds, args...)
	return binds, f
}

func TestP3_4Reference(t *testing.T) {
	for i, r := range []random{
		{vars: 2}, {vars: 4}, {vars: 8}, {vars: 4, mixed: true}, {vars: 30, mixed: true},
		{vars: 4, greats: 0.1}, {vars: 8, greats: 0.3}, {vars: 12, greats: 0.5, mixed: true},
	} {
		r.Rand = seeded(int64(10 + i))
		for range 4000 {
			solved(t, r.pairs())
		}
	}
}

// The kinds of faults that pairs of one variable after another lead to, each of them often.
func TestP3_4ReferenceFaults(t *testing.T) {
	r := random{Rand: seeded(30), vars: 10, greats: 0.2}
	count := map[api.Errno]int{}
	ends := 0
	for range 12000 {
		var l []api.Pair
		doubles := r.Float64() // how many of the variables are two of the next
		for i := range 10 {
			l = append(l, api.Pair{A: v(i), B: r.typ(r.Intn(2))})
			if r.Float64() < doubles {
				l[i].B = tuple(v(i+1), v(i+1))
			}
			if r.Intn(20) == 0 {
				l[i].A = r.typ(1)
			}
		}
		r.Shuffle(len(l), func(i, j int) { l[i], l[j] = l[j], l[i] })
		l = l[:1+r.Intn(len(l))]
		_, f := solved(t, l)
		count[f.Kind]++
		if f.At == len(l) {
			ends++
		}
	}
	for _, kind := range []api.Errno{api.OK, api.ErrType, api.ErrCircle, api.ErrEqual, api.ErrBig} {
		if count[kind] < 20 {
			t.Errorf("kind %d only %d times", kind, count[kind])
		}
	}
	if ends < 20 {
		t.Errorf("a fault at the end only %d times", ends)
	}
}

// put replaces the variables of a type by what some types say.
func put(t api.Type, by map[int]api.Type) api.Type {
	if b, ok := by[t.N]; ok && t.Kind == api.TyVar {
		return b
	}
	t.Args = eachAnew(t.Args, func(a api.Type) api.Type { return put(a, by) })
	return t
}

// hide puts variables where what they are replaced by stands in a type.
func (r random) hide(t api.Type, by map[int]api.Type) api.Type {
	for n := range r.vars {
		if Alike(by[n], t) && r.Intn(3) > 0 {
			return v(n)
		}
	}
	t.Args = eachAnew(t.Args, func(a api.Type) api.Type { return r.hide(a, by) })
	return t
}

// Pairs that some replacement makes the same are made the same, and that replacement goes through the answer.
func TestP3_4MostGeneral(t *testing.T) {
	const below = 1000 // the variables of the replacement are others
	far := math.MinInt
	for round := range 5000 {
		r := random{Rand: seeded(int64(round)), vars: 2 + round%6}
		by := map[int]api.Type{}
		for n := range r.vars {
			by[n] = put(r.typ(r.Intn(3)), map[int]api.Type{0: v(below), 1: v(below + 1), 2: v(below + 2)})
			by[n] = put(by[n], map[int]api.Type{3: tInt, 4: tExn, 5: v(far), 6: v(below), 7: v(below)})
		}
		var l []api.Pair
		for range 1 + r.Intn(4) {
			whole := put(r.typ(r.Intn(4)), by)
			l = append(l, api.Pair{A: r.hide(plainVars(whole), by), B: r.hide(plainVars(whole), by)})
		}
		by[below], by[below+1], by[below+2], by[far] = v(below), v(below+1), v(below+2), v(far)
		binds, f := solved(t, l)
		if f != (api.Fault{}) {
			t.Fatalf("%v: %v", l, f)
		}
		found := map[int]api.Type{}
		for _, b := range binds {
			found[b.N] = b.T
			if !Alike(put(b.T, by), by[b.N]) {
				t.Fatalf("%v: variable %d is %v, which does not become %v", l, b.N, b.T, by[b.N])
			}
		}
		for _, p := range l {
			if !Alike(put(p.A, found), put(p.B, found)) {
				t.Fatalf("%v: %v does not make them the same", l, binds)
			}
		}
	}
}

func plainVars(t api.Type) api.Type {
	if t.Kind == api.TyVar {
		t.Eq = 0
	}
	t.Args = eachAnew(t.Args, plainVars)
	return t
}
