package core

import (
	"slices"

	"mlcore/api"
	"mlcore/scopes"
)

func (m *maker) exp(n api.Node) api.Term {
	switch n.Kind {
	case api.EInt:
		return api.Term{Op: api.TInt, At: n.At, N: n.N}
	case api.EStr:
		return api.Term{Op: api.TStr, At: n.At, S: n.Name}
	case api.EVar:
		return m.named(n).term
	case api.ECon:
		return m.constructor(n)
	case api.EApp:
		return m.application(n)
	case api.EList:
		return m.list(n)
	case api.EOp:
		return m.operator(n)
	case api.EFn:
		return m.function(n)
	case api.ECase:
		return m.rules(api.TCase, n)
	case api.ETry:
		return m.rules(api.TTry, n)
	case api.EHas:
		return m.exp(n.Kids[0])
	case api.ELet:
		return m.let(n)
	}
	return m.ofKids(n)
}

// ofKids makes a term of an expression that is no more than its kids.
func (m *maker) ofKids(n api.Node) api.Term {
	kids := m.exps(n.Kids)
	switch n.Kind {
	case api.ETuple:
		return tuple(n.At, kids...)
	case api.EAnd:
		return choice(n.At, kids[0], kids[1], constant(n.At, falseOfBool()))
	case api.EOr:
		return choice(n.At, kids[0], constant(n.At, trueOfBool()), kids[1])
	case api.EIf:
		return choice(n.At, kids...)
	case api.ERaise:
		return api.Term{Op: api.TRaise, At: n.At, Kids: kids}
	}
	return api.Term{Op: api.TSeq, At: n.At, Kids: kids}
}

func (m *maker) exps(list []api.Node) []api.Term {
	var all []api.Term
	for _, n := range list {
		all = append(all, m.exp(n))
	}
	return all
}

// named is what the name of a node stands for, at the node.
func (m *maker) named(n api.Node) known {
	k := m.Find(n.Name)
	k.term.At = n.At
	return k
}

// constructor makes a term of a constructor that is not applied: one that takes an
// argument is a function then.
func (m *maker) constructor(n api.Node) api.Term {
	k := m.named(n)
	if !k.takes {
		return k.term
	}
	number := m.next()
	k.term.Kids = []api.Term{{Op: api.TVar, At: n.At, N: number}}
	return api.Term{
		Op: api.TFn, At: n.At,
		Pats: []api.Pat{{Kind: api.PtVar, At: n.At, N: number}},
		Kids: []api.Term{k.term},
	}
}

func (m *maker) application(n api.Node) api.Term {
	if n.Kids[0].Kind != api.ECon {
		return api.Term{Op: api.TApp, At: n.At, Kids: m.exps(n.Kids)}
	}
	t := m.named(n.Kids[0]).term
	t.Kids = m.exps(n.Kids[1:])
	return t
}

func (m *maker) list(n api.Node) api.Term {
	whole := constant(n.At, endOfList())
	for _, t := range slices.Backward(m.exps(n.Kids)) {
		whole = cons(t.At, t, whole)
	}
	return whole
}

func (m *maker) operator(n api.Node) api.Term {
	kids := m.exps(n.Kids)
	if n.Name == consOfList().Name {
		return cons(n.At, kids...)
	}
	return api.Term{Op: api.TOp, At: n.At, S: n.Name, Kids: kids}
}

func (m *maker) rules(op int, n api.Node) api.Term {
	t := api.Term{Op: op, At: n.At, Kids: []api.Term{m.exp(n.Kids[0])}}
	for _, r := range n.Kids[1:] {
		m.Within(func() {
			t.Pats = append(t.Pats, m.pat(r.Kids[0]))
			t.Kids = append(t.Kids, m.exp(r.Kids[1]))
		})
	}
	return t
}

func (m *maker) let(n api.Node) (t api.Term) {
	m.Within(func() {
		ahead := m.decs(n.Kids[:n.N])
		t = nested(ahead, m.exp(n.Kids[n.N]))
	})
	return t
}

func tuple(at int, kids ...api.Term) api.Term {
	return api.Term{Op: api.TTuple, At: at, Kids: kids}
}

func choice(at int, kids ...api.Term) api.Term {
	return api.Term{Op: api.TIf, At: at, Kids: kids}
}

// constant is a constructor with what it is applied to, if it is.
func constant(at int, c scopes.Constructor, kids ...api.Term) api.Term {
	t := constructed(c).term
	t.At, t.Kids = at, kids
	return t
}

func cons(at int, both ...api.Term) api.Term {
	return constant(at, consOfList(), tuple(at, both...))
}
