package core

import (
	"slices"

	"mlcore/api"
	"mlcore/scopes"
)

// pat makes a pattern, and declares its names.
func (m *maker) pat(n api.Node) api.Pat {
	switch n.Kind {
	case api.PVar:
		return api.Pat{Kind: api.PtVar, At: n.At, N: m.variable(n.Name)}
	case api.PAs:
		number := m.variable(n.Name)
		return api.Pat{Kind: api.PtAs, At: n.At, N: number, Kids: m.pats(n.Kids)}
	case api.PInt:
		return api.Pat{Kind: api.PtInt, At: n.At, N: n.N}
	case api.PStr:
		return api.Pat{Kind: api.PtStr, At: n.At, S: n.Name}
	case api.PTuple:
		return tuplePat(n.At, m.pats(n.Kids)...)
	case api.PCon:
		return pattern(m.named(n).term, m.pats(n.Kids)...)
	case api.PCons:
		return consPat(n.At, m.pats(n.Kids)...)
	case api.PList:
		return m.listPat(n)
	case api.PHas:
		return m.pat(n.Kids[0])
	}
	return api.Pat{Kind: api.PtAny, At: n.At}
}

func (m *maker) pats(list []api.Node) []api.Pat {
	var all []api.Pat
	for _, n := range list {
		all = append(all, m.pat(n))
	}
	return all
}

func (m *maker) listPat(n api.Node) api.Pat {
	whole := constantPat(n.At, endOfList())
	for _, p := range slices.Backward(m.pats(n.Kids)) {
		whole = consPat(n.At, p, whole)
	}
	return whole
}

// pattern asks for the constructor or the exception of a term.
func pattern(t api.Term, kids ...api.Pat) api.Pat {
	kind := api.PtCon
	if t.Op == api.TExn {
		kind = api.PtExn
	}
	return api.Pat{Kind: kind, At: t.At, N: t.N, Of: t.Of, S: t.S, Kids: kids}
}

func tuplePat(at int, kids ...api.Pat) api.Pat {
	return api.Pat{Kind: api.PtTuple, At: at, Kids: kids}
}

func constantPat(at int, c scopes.Constructor, kids ...api.Pat) api.Pat {
	return pattern(constant(at, c), kids...)
}

func consPat(at int, both ...api.Pat) api.Pat {
	return constantPat(at, consOfList(), tuplePat(at, both...))
}
