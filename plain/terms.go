package plain

import (
	"slices"

	"mlcore/api"
)

// maker makes plain terms of core terms.
type maker struct {
	last int // the last number of a variable that was given
}

// next is the number of a variable that is not there yet.
func (m *maker) next() int {
	m.last++
	return m.last
}

func (m *maker) term(t api.Term) api.Term {
	kids := m.terms(t.Kids)
	switch t.Op {
	case api.TCon, api.TTuple:
		return made(t, kids)
	case api.TExn:
		return block(t.At, slices.Insert(kids, 0, variable(t.At, t.N)))
	case api.TFn:
		return m.function(t, kids)
	case api.TLet:
		return m.declaration(t, kids)
	case api.TCase:
		return m.cases(t, kids)
	case api.TTry:
		return m.attempt(t, kids)
	}
	t.Kids = kids
	return t
}

func (m *maker) terms(list []api.Term) []api.Term {
	var all []api.Term
	for _, t := range list {
		all = append(all, m.term(t))
	}
	return all
}

// made is the value of a constructor or a tuple: a block of what it is made of, and
// of nothing a number.
func made(t api.Term, kids []api.Term) api.Term {
	if len(kids) == 0 {
		return api.Term{Op: api.TInt, At: t.At, N: t.N}
	}
	whole := block(t.At, kids)
	whole.N = t.N
	return whole
}

func (m *maker) function(t api.Term, kids []api.Term) api.Term {
	v, left := m.held(t.Pats[0])
	body := m.rules(v, []api.Pat{left}, kids, raised(t.At, matchFails))
	return binding(api.TFn, t.At, v, body)
}

// declaration is a sequence where the pattern says nothing: then no variable keeps a
// value that nobody asks for.
func (m *maker) declaration(t api.Term, kids []api.Term) api.Term {
	if idle(t.Pats[0]) {
		return api.Term{Op: api.TSeq, At: t.At, Kids: kids}
	}
	v, left := m.held(t.Pats[0])
	rest := m.rules(v, []api.Pat{left}, kids[1:], raised(t.At, bindFails))
	return binding(api.TLet, t.At, v, kids[0], rest)
}

// cases asks a variable itself, if it is one that is looked at: it has its value for good.
func (m *maker) cases(t api.Term, kids []api.Term) api.Term {
	first, fails := kids[0], raised(t.At, matchFails)
	if first.Op == api.TVar {
		return m.rules(first.N, t.Pats, kids[1:], fails)
	}
	v := m.next()
	return binding(api.TLet, t.At, v, first, m.rules(v, t.Pats, kids[1:], fails))
}

func (m *maker) attempt(t api.Term, kids []api.Term) api.Term {
	v := m.next()
	again := api.Term{Op: api.TRaise, At: t.At, Kids: []api.Term{variable(t.At, v)}}
	return binding(api.TTry, t.At, v, kids[0], m.rules(v, t.Pats, kids[1:], again))
}
