package flat

import "mlcore/api"

// term is a plain term as it stands in the function. Slots below taken belong to the
// variables around it; the others are free: what is bound within a term is not asked
// for behind it, so that terms side by side have the same slots.
func (m *maker) term(t api.Term, taken int) api.Term {
	switch t.Op {
	case api.TVar:
		return m.variable(t.At, t.N)
	case api.TFn:
		return m.function(t)
	case api.TLet:
		return m.declaration(t, taken)
	case api.TTry:
		return m.attempt(t, taken)
	case api.TFuns:
		return m.functions(t, taken)
	case api.TNewExn:
		return m.exception(t, taken)
	}
	t.Kids = m.terms(t.Kids, taken)
	return t
}

func (m *maker) terms(list []api.Term, taken int) []api.Term {
	var all []api.Term
	for _, t := range list {
		all = append(all, m.term(t, taken))
	}
	return all
}

// function adds a function, and catches what it asks for: perhaps this one has to
// catch that, too.
func (m *maker) function(t api.Term) api.Term {
	number, caught := m.add(t.Pats, t.Kids[0])
	var kids []api.Term
	for _, v := range caught {
		kids = append(kids, m.variable(t.At, v))
	}
	return api.Term{Op: api.TMake, At: t.At, N: number, Kids: kids}
}

// declaration needs no slot for a variable that has what another one has.
func (m *maker) declaration(t api.Term, taken int) api.Term {
	v, first, rest := t.Pats[0].N, t.Kids[0], t.Kids[1]
	if first.Op == api.TVar {
		m.alias(v, first.N)
		return m.term(rest, taken)
	}
	value := m.term(first, taken)
	m.keep(v, taken)
	kids := []api.Term{value, m.term(rest, taken+1)}
	return api.Term{Op: api.TStore, At: t.At, N: taken, Kids: kids}
}

func (m *maker) attempt(t api.Term, taken int) api.Term {
	tried := m.term(t.Kids[0], taken)
	m.keep(t.Pats[0].N, taken)
	kids := []api.Term{tried, m.term(t.Kids[1], taken+1)}
	return api.Term{Op: api.TTry, At: t.At, N: taken, Kids: kids}
}

// functions have their slots ahead of what they catch, so that they know one another.
func (m *maker) functions(t api.Term, taken int) api.Term {
	var slots []int
	for i, v := range t.Ns {
		m.keep(v, taken+i)
		slots = append(slots, taken+i)
	}
	return api.Term{Op: api.TFix, At: t.At, Ns: slots, Kids: m.terms(t.Kids, taken+len(slots))}
}

func (m *maker) exception(t api.Term, taken int) api.Term {
	m.keep(t.N, taken)
	t.N, t.Kids = taken, m.terms(t.Kids, taken+1)
	return t
}
