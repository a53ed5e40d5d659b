package plain

import "mlcore/api"

// The variables of exceptions that a match raises.
const (
	matchFails = -1 - iota
	bindFails
)

func variable(at, n int) api.Term { return api.Term{Op: api.TVar, At: at, N: n} }

// binding is a term whose last kid has a variable.
func binding(op, at, v int, kids ...api.Term) api.Term {
	return api.Term{Op: op, At: at, Pats: []api.Pat{{Kind: api.PtVar, At: at, N: v}}, Kids: kids}
}

func block(at int, kids []api.Term) api.Term {
	return api.Term{Op: api.TBlock, At: at, Kids: kids}
}

// field is a field of a variable's value.
func field(at, n, v int) api.Term {
	return api.Term{Op: api.TField, At: at, N: n, Kids: []api.Term{variable(at, v)}}
}

// raised raises an exception without an argument.
func raised(at, exception int) api.Term {
	value := block(at, []api.Term{variable(at, exception)})
	return api.Term{Op: api.TRaise, At: at, Kids: []api.Term{value}}
}
