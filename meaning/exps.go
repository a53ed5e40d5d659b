package meaning

import (
	"slices"

	"mlcore/api"
)

func (d *reader) exp(n api.Node) expression {
	switch n.Kind {
	case api.EInt:
		return use{given{n.N}}
	case api.EStr:
		return use{given{n.Name}}
	case api.EVar, api.ECon:
		return use{d.Find(n.Name)}
	case api.ETuple:
		return d.several(n, tupleOf)
	case api.EList:
		return d.several(n, listOf)
	case api.EOp:
		return d.several(n, d.signs[n.Name])
	case api.EFn:
		return lambda{d.function(n.Kids[:1], n.Kids[1])}
	case api.EHas:
		return annotated{d.exp(n.Kids[0])}
	case api.ELet:
		return d.let(n)
	}
	kids := d.exps(n)
	switch n.Kind {
	case api.ECase:
		return &cases{kids[0], d.rules(n.Kids[1:])}
	case api.ETry:
		return &attempt{kids[0], d.rules(n.Kids[1:])}
	case api.EApp:
		return &application{kids[0], kids[1]}
	case api.EIf:
		return &choice{kids[0], kids[1], kids[2]}
	case api.EAnd:
		return &decision{kids[0], kids[1], false}
	case api.EOr:
		return &decision{kids[0], kids[1], true}
	case api.ERaise:
		return raise{kids[0]}
	}
	return sequence(kids)
}

// exps is the expressions among the kids of a node.
func (d *reader) exps(n api.Node) []expression {
	var list []expression
	for _, k := range n.Kids {
		if k.Kind != api.Rule {
			list = append(list, d.exp(k))
		}
	}
	return list
}

func (d *reader) let(n api.Node) expression {
	b := &block{}
	d.within(func() {
		b.vals = d.decs(n.Kids[:n.N])
		b.last = d.exp(n.Kids[n.N])
	})
	return b
}

func (d *reader) several(n api.Node, made sign) expression {
	if len(n.Kids) == 0 {
		v, _ := made(nil)
		return use{given{v}}
	}
	return &several{d.exps(n), made}
}

func tupleOf(l []value) (value, int) { return tuple(l), nothingFails }

func listOf(l []value) (value, int) {
	var list value = bare(emptyNumber)
	for _, v := range slices.Backward(l) {
		list = cons(v, list)
	}
	return list, nothingFails
}
