package core

import (
	"slices"

	"mlcore/api"
)

// program is a program's term. Innermost stands unit, at the place 0.
func (m *maker) program(n api.Node) api.Term { return nested(m.decs(n.Kids), tuple(0)) }

// nested puts terms, each of which lacks its last kid, one in the other.
func nested(ahead []api.Term, inner api.Term) api.Term {
	for _, t := range slices.Backward(ahead) {
		t.Kids = append(t.Kids, inner)
		inner = t
	}
	return inner
}

// decs makes terms of declarations. They lack their last kids: what comes behind
// them has not been gone through yet.
func (m *maker) decs(list []api.Node) []api.Term {
	var all []api.Term
	for _, n := range list {
		all = append(all, m.dec(n)...)
	}
	return all
}

func (m *maker) dec(n api.Node) (terms []api.Term) {
	switch n.Kind {
	case api.DVal:
		terms = append(terms, m.val(n))
	case api.DFun:
		terms = append(terms, m.fun(n))
	case api.DExn:
		terms = append(terms, m.exception(n))
	case api.DData:
		m.Data(n)
	case api.DStruct:
		m.Structure(n, func(list []api.Node) { terms = m.decs(list) })
	case api.DSig:
		m.Signature(n)
	case api.DOpen:
		m.Open(n.Name)
	}
	return terms
}

// val goes through the expression first: it does not know the pattern's names, and
// has its numbers ahead of theirs.
func (m *maker) val(n api.Node) api.Term {
	e := m.exp(n.Kids[1])
	p := m.pat(n.Kids[0])
	return api.Term{Op: api.TLet, At: n.At, Pats: []api.Pat{p}, Kids: []api.Term{e}}
}

func (m *maker) fun(n api.Node) api.Term {
	t := api.Term{Op: api.TFuns, At: n.At}
	for _, b := range n.Kids {
		t.Ns = append(t.Ns, m.variable(b.Name))
	}
	for _, b := range n.Kids {
		t.Kids = append(t.Kids, m.function(b))
	}
	return t
}

// function makes a term of an EFn or an FBind: a TFn for each pattern, one in the other.
func (m *maker) function(n api.Node) (t api.Term) {
	last := len(n.Kids) - 1
	m.Within(func() {
		var ahead []api.Term
		for _, p := range n.Kids[:last] {
			ahead = append(ahead, api.Term{Op: api.TFn, At: n.At, Pats: []api.Pat{m.pat(p)}})
		}
		t = nested(ahead, m.exp(n.Kids[last]))
	})
	return t
}

func (m *maker) exception(n api.Node) api.Term {
	t := api.Term{Op: api.TNewExn, At: n.At, N: m.next(), S: n.Name, Of: len(n.Kids)}
	m.Declare(n.Name, known{api.Term{Op: api.TExn, N: t.N}, t.Of == 1})
	return t
}
