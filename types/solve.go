package types

import (
	"maps"
	"slices"

	"mlcore/api"
)

// Solve makes pairs of types the same.
func Solve(l []api.Pair) ([]api.Bind, api.Fault) {
	for i, p := range l {
		if !Proper(p.A) || !Proper(p.B) {
			return nil, api.Fault{Kind: api.ErrArg, At: i}
		}
	}
	s := NewSolver()
	for _, p := range l {
		eachVariable(p.A, s.eq.meet)
		eachVariable(p.B, s.eq.meet)
	}
	for i, p := range l {
		if kind := s.Same(p.A, p.B); kind != api.OK {
			return nil, api.Fault{Kind: kind, At: i}
		}
	}
	list, ok := s.binds()
	if !ok {
		return nil, api.Fault{Kind: api.ErrBig, At: len(l)}
	}
	return list, api.Fault{}
}

// Solver knows what variables stand for. No variable stands within what it
// stands for, so that replacing them comes to an end.
type Solver struct {
	stands map[int]api.Type
	eq     comparing
	fresh  int // how many variables were made
	grown  int // how many variables came to stand for what has more parts than they
}

// NewSolver is one of which no variable stands for anything.
func NewSolver() *Solver {
	return &Solver{stands: map[int]api.Type{}, eq: comparing{}}
}

// Fresh is a variable that was never there, if all with numbers from 0 on are
// made by it; one of compared types, if eq is 1.
func (s *Solver) Fresh(eq int) api.Type {
	v := api.Type{Kind: api.TyVar, N: s.fresh, Eq: eq}
	s.fresh++
	s.eq.meet(v)
	return v
}

// Same makes two types the same, and tells why that does not go.
func (s *Solver) Same(a, b api.Type) api.Errno { return s.same(a, b, notAsked) }

// Top replaces a variable by what it stands for, but not what stands within
// that. All the variables on the way stand for the same from then on, so that a
// long way is gone only once.
func (s *Solver) Top(t api.Type) api.Type {
	end, steps := t, 0
	for next, ok := s.follow(end); ok; next, ok = s.follow(end) {
		end = next
		steps++
	}
	for ; steps > 1; steps-- {
		next := s.stands[t.N]
		s.stands[t.N] = end
		t = next
	}
	return end
}

func (s *Solver) follow(t api.Type) (api.Type, bool) {
	if t.Kind != api.TyVar {
		return api.Type{}, false
	}
	next, ok := s.stands[t.N]
	return next, ok
}

// notAsked says that types may be too great: no number of variables is it.
const notAsked = -1

// same makes two types the same. That neither is too great was seen when so many
// variables had grown: if these are all, it need not be asked again.
func (s *Solver) same(a, b api.Type, asked int) api.Errno {
	if asked != s.grown && !(s.Fits(a) && s.Fits(b)) {
		return api.ErrBig
	}
	asked = s.grown
	a, b = s.Top(a), s.Top(b)
	switch {
	case a.Kind == api.TyVar && b.Kind == api.TyVar && a.N == b.N:
		return api.OK
	case a.Kind == api.TyVar:
		return s.stand(a.N, b)
	case b.Kind == api.TyVar:
		return s.stand(b.N, a)
	case !sameTop(a, b):
		return api.ErrType
	}
	for i := range a.Args {
		if kind := s.same(a.Args[i], b.Args[i], asked); kind != api.OK {
			return kind
		}
	}
	return api.OK
}

// stand makes a variable that stands for nothing stand for a type that is another.
func (s *Solver) stand(n int, t api.Type) api.Errno {
	if s.within(n, t) {
		return api.ErrCircle
	}
	if s.eq[n] == 1 && !compared(t, s.compare) {
		return api.ErrEqual
	}
	s.stands[n] = t
	if len(t.Args) > 0 {
		s.grown++
	}
	return api.OK
}

func (s *Solver) within(n int, t api.Type) bool {
	t = s.Top(t)
	if t.Kind == api.TyVar {
		return t.N == n
	}
	return slices.ContainsFunc(t.Args, func(a api.Type) bool { return s.within(n, a) })
}

// compare asks of a variable whether it is of compared types, which one that
// stands for nothing becomes.
func (s *Solver) compare(v api.Type) bool {
	t := s.Top(v)
	if t.Kind == api.TyVar {
		s.eq[t.N] = 1
		return true
	}
	return compared(t, s.compare)
}

// Fits asks whether a type has no more parts than it may have, its variables replaced.
func (s *Solver) Fits(t api.Type) bool {
	left := api.MaxType
	return s.fitsIn(t, &left)
}

// fitsIn counts the parts down as it meets them: what is too great may be so by far.
func (s *Solver) fitsIn(t api.Type, left *int) bool {
	*left--
	if *left < 0 {
		return false
	}
	for _, a := range s.Top(t).Args {
		if !s.fitsIn(a, left) {
			return false
		}
	}
	return true
}

// Replace is a type with all its variables replaced, in new memory.
func (s *Solver) Replace(t api.Type) api.Type {
	t = s.Top(t)
	if t.Kind == api.TyVar {
		return api.Type{Kind: api.TyVar, N: t.N, Eq: max(t.Eq, s.eq[t.N])}
	}
	t.Args = eachAnew(t.Args, s.Replace)
	return t
}

// binds tells what each variable stands for, unless one of them is too great.
func (s *Solver) binds() ([]api.Bind, bool) {
	var list []api.Bind
	for _, n := range slices.Sorted(maps.Keys(s.eq)) {
		v := api.Type{Kind: api.TyVar, N: n}
		if !s.Fits(v) {
			return nil, false
		}
		list = append(list, api.Bind{N: n, T: s.Replace(v)})
	}
	return list, true
}
