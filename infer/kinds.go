package infer

import (
	"slices"

	"mlcore/api"
)

func named(name string, eq int, args ...api.Type) api.Type {
	return api.Type{Kind: api.TyCon, Name: name, Eq: eq, Args: args}
}

func intType() api.Type    { return named("int", 1) }
func stringType() api.Type { return named("string", 1) }
func boolType() api.Type   { return named("bool", 1) }
func unitType() api.Type   { return named("unit", 1) }
func exnType() api.Type    { return named("exn", 0) }

func listType(a api.Type) api.Type  { return named("list", 1, a) }
func refType(a api.Type) api.Type   { return named("ref", 2, a) }
func arrayType(a api.Type) api.Type { return named("array", 2, a) }

func tupleType(args ...api.Type) api.Type { return api.Type{Kind: api.TyTuple, Args: args} }

func arrow(a, b api.Type) api.Type {
	return api.Type{Kind: api.TyArrow, Args: []api.Type{a, b}}
}

// anything is a variable that stands for any type, by its place among those of
// a name. Its number is below 0: fresh ones have others.
func anything(place, eq int) api.Type {
	return api.Type{Kind: api.TyVar, N: -1 - place, Eq: eq}
}

func isAnything(v api.Type) bool { return v.N < 0 }

// placeOf is the place that anything was made with.
func placeOf(v api.Type) int { return -1 - v.N }

// eachVariable is a type with another one for each of its variables.
func eachVariable(t api.Type, other func(api.Type) api.Type) api.Type {
	t, _ = replaced(t, other)
	return t
}

// replaced says, too, whether there was a variable: a type without one is not
// written anew.
func replaced(t api.Type, other func(api.Type) api.Type) (api.Type, bool) {
	if t.Kind == api.TyVar {
		return other(t), true
	}
	shared := true
	for i, a := range t.Args {
		b, ok := replaced(a, other)
		if ok && shared {
			t.Args = slices.Clone(t.Args)
			shared = false
		}
		if ok {
			t.Args[i] = b
		}
	}
	return t, !shared
}

// isOpen asks whether a type has a variable that does not stand for any type.
func isOpen(t api.Type) bool { return len(openVariables(t)) > 0 }

// openVariables is those of a type that do not stand for any type, as often as they stand in it.
func openVariables(t api.Type) []int {
	var list []int
	eachVariable(t, func(v api.Type) api.Type {
		if !isAnything(v) {
			list = append(list, v.N)
		}
		return v
	})
	return list
}
