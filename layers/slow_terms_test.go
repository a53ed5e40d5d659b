package layers

import "mlcore/api"

// What a core term does, by the words of P7.5. Values are those of the second meaning.

type slowTerms struct {
	*slow
	first  slowNames
	chosen func(x api.Term, i int) // is told which pattern of a term matched; -1: none did
}

// slowVars is variables with what they have; the last one first.
type slowVars struct {
	number int
	value  any
	next   *slowVars
}

func (e *slowVars) with(number int, v any) *slowVars { return &slowVars{number, v, e} }

func (e *slowVars) entry(number int) *slowVars {
	for e != nil && e.number != number {
		e = e.next
	}
	return e
}

func (e *slowVars) has(number int) bool { return e.entry(number) != nil }

func (e *slowVars) find(number int) any {
	if !e.has(number) {
		panic("no variable")
	}
	return e.entry(number).value
}

// slowTerm evaluates a term for so many steps.
func slowTerm(x api.Term, steps int) api.Outcome {
	return watchedTerm(x, steps, func(api.Term, int) {})
}

// watchedTerm evaluates a term, and tells the patterns that are chosen.
func watchedTerm(x api.Term, steps int, chosen func(x api.Term, i int)) (o api.Outcome) {
	s := &slowTerms{slow: &slow{left: steps}, chosen: chosen}
	defer func() { o = s.told(recover()) }()
	s.first = s.beginning()
	var e *slowVars
	for i, name := range []string{"Match", "Bind", "Overflow", "Div", "Bounds", "Size"} {
		e = e.with(-1-i, s.first.find("value", name).con)
	}
	s.term(x, e)
	return o
}

func (s *slowTerms) term(x api.Term, e *slowVars) any {
	s.step()
	switch x.Op {
	case api.TInt:
		return x.N
	case api.TStr:
		return x.S
	case api.TVar:
		return e.find(x.N)
	case api.TBase:
		return s.first.find("value", x.S).value
	case api.TFn:
		return slowFn(func(v any) any { return s.choose(v, x, x.Kids, e, s.match) })
	case api.TApp:
		f := s.term(x.Kids[0], e).(slowFn)
		return f(s.term(x.Kids[1], e))
	case api.TCon:
		return slowCon{x.S, x.N, s.argument(x, e)}
	case api.TExn:
		return slowExn{e.find(x.N).(*slowExnID), s.argument(x, e)}
	case api.TTuple:
		return s.terms(x.Kids, e)
	case api.TOp:
		return s.first.find("operator", x.S).value.(slowFn)(s.terms(x.Kids, e))
	case api.TIf:
		if s.term(x.Kids[0], e).(slowCon).number == 1 {
			return s.term(x.Kids[1], e)
		}
		return s.term(x.Kids[2], e)
	case api.TCase:
		return s.choose(s.term(x.Kids[0], e), x, x.Kids[1:], e, s.match)
	case api.TTry:
		v, raised := s.try(func() any { return s.term(x.Kids[0], e) })
		if raised == nil {
			return v
		}
		return s.choose(*raised, x, x.Kids[1:], e, *raised)
	case api.TRaise:
		panic(s.term(x.Kids[0], e).(slowExn))
	case api.TLet:
		return s.choose(s.term(x.Kids[0], e), x, x.Kids[1:], e, s.bind)
	case api.TFuns:
		return s.funs(x, e)
	case api.TSeq:
		l := s.terms(x.Kids, e)
		return l[len(l)-1]
	case api.TNewExn:
		return s.term(x.Kids[0], e.with(x.N, &slowExnID{x.S}))
	}
	panic("no term")
}

func (s *slowTerms) terms(list []api.Term, e *slowVars) slowTuple {
	all := slowTuple{}
	for _, x := range list {
		all = append(all, s.term(x, e))
	}
	return all
}

// argument is what a constructor or an exception is applied to, if it is.
func (s *slowTerms) argument(x api.Term, e *slowVars) any {
	if len(x.Kids) == 0 {
		return nil
	}
	return s.term(x.Kids[0], e)
}

// funs gives functions their variables, which all of them know.
func (s *slowTerms) funs(x api.Term, e *slowVars) any {
	list := make([]slowFn, len(x.Ns))
	for i, n := range x.Ns {
		e = e.with(n, slowFn(func(v any) any { return list[i](v) }))
	}
	for i := range list {
		list[i] = s.term(x.Kids[i], e).(slowFn)
	}
	return s.term(x.Kids[len(list)], e)
}

// choose goes on with the term of the first pattern that a value matches.
func (s *slowTerms) choose(v any, x api.Term, bodies []api.Term, e *slowVars, otherwise slowExn) any {
	for i, p := range x.Pats {
		if inner, ok := s.matches(p, v, e); ok {
			s.chosen(x, i)
			return s.term(bodies[i], inner)
		}
	}
	s.chosen(x, -1)
	panic(otherwise)
}

// matches gives variables what a pattern matches, on top of others.
func (s *slowTerms) matches(p api.Pat, v any, e *slowVars) (*slowVars, bool) {
	switch p.Kind {
	case api.PtAny:
		return e, true
	case api.PtVar:
		return e.with(p.N, v), true
	case api.PtAs:
		return s.matches(p.Kids[0], v, e.with(p.N, v))
	case api.PtInt:
		return e, v.(int) == p.N
	case api.PtStr:
		return e, v.(string) == p.S
	case api.PtTuple:
		return s.allMatch(p.Kids, v.(slowTuple), e)
	case api.PtCon:
		c := v.(slowCon)
		if (c.number == p.N) != (c.name == p.S) {
			panic("a constructor with two names, or two numbers")
		}
		return s.argumentMatches(p, c.number == p.N, c.arg, e)
	case api.PtExn:
		x := v.(slowExn)
		return s.argumentMatches(p, x.by == e.find(p.N).(*slowExnID), x.arg, e)
	}
	panic("no pattern")
}

func (s *slowTerms) allMatch(list []api.Pat, l slowTuple, e *slowVars) (*slowVars, bool) {
	for i, p := range list {
		inner, ok := s.matches(p, l[i], e)
		if !ok {
			return e, false
		}
		e = inner
	}
	return e, true
}

func (s *slowTerms) argumentMatches(p api.Pat, same bool, arg any, e *slowVars) (*slowVars, bool) {
	switch {
	case !same:
		return e, false
	case (arg != nil) != (len(p.Kids) > 0):
		panic("an argument too many, or too few")
	case arg == nil:
		return e, true
	}
	return s.matches(p.Kids[0], arg, e)
}
