package emit

import (
	"slices"

	"mlcore/api"
)

// An array is a reference. As long as nothing was put into it, it refers to the tuple that it was made of: how many cells
// there are, and what all of them hold. The first put makes the cells. For an array can be had for three steps, for which
// P15.6's heap has 90 cells and not MaxArray; what is put into it takes six more steps at least.

// arrays is the functions of arrays that a program asks for. They have code of their own, behind that of the program.
type arrays struct {
	first int // the number of the first one
	names []string
}

// number is that of a function of arrays.
func (a *arrays) number(name string) int {
	i := slices.Index(a.names, name)
	if i < 0 {
		i = len(a.names)
		a.names = append(a.names, name)
	}
	return a.first + i
}

// ofArrays asks whether a function that is there from the beginning makes arrays or takes them.
func ofArrays(name string) bool {
	switch name {
	case "array", "length", "at", "put":
		return true
	}
	return false
}

// arrayFunction is a function of arrays. The functions that it asks for are the machine's own.
func arrayFunction(name string) api.Fun {
	switch name {
	case "array":
		return api.Fun{Body: newArray()}
	case "length":
		return held(op(api.TArg, 0), choose(untouched(), cells(), base("length", inside())))
	case "at":
		read := base("at", op(api.TBlock, 0, inside(), argument(1)))
		return held(argument(0), choose(untouched(), within(op(api.TField, 1, inside())), read))
	default: // put
		write := base("put", op(api.TBlock, 0, inside(), argument(1), argument(2)))
		ready := choose(untouched(), within(touch()), op(api.TInt, 0))
		return held(argument(0), op(api.TSeq, 0, ready, write))
	}
}

// newArray lets the machine make an array of no cells, which does not hold what its cells would, and refuse one that may
// not be.
func newArray() api.Term {
	n := argument(0)
	whole := both(sign("<=", op(api.TInt, 1), n), sign("<=", n, op(api.TInt, api.MaxArray)), op(api.TArg, 0), base("array", op(api.TArg, 0)))
	return base("ref", whole)
}

// touch makes the cells of an array, and is unit.
func touch() api.Term {
	return op(api.TStore, 0, base("array", inside()), sign(":=", argument(0), inside()))
}

// within is a term, if the argument's index is one of a cell of an array that is untouched; Bounds is raised otherwise.
func within(t api.Term) api.Term {
	raised := op(api.TRaise, 0, op(api.TBlock, 0, op(api.TVar, theBounds)))
	return both(sign("<=", op(api.TInt, 0), argument(1)), sign("<", argument(1), cells()), t, raised)
}

// theBounds is the variable of the exception Bounds.
const theBounds = -5

// held is a function that has what an array refers to in its slot.
func held(array, body api.Term) api.Fun {
	return api.Fun{Slots: 1, Body: op(api.TStore, 0, sign("!", array), body)}
}

// inside is what the array refers to, untouched asks whether that is a tuple, and cells is how many that tuple says.
func inside() api.Term    { return op(api.TSlot, 0) }
func untouched() api.Term { return api.Term{Op: api.TIs, Of: aBlock, Kids: []api.Term{inside()}} }
func cells() api.Term     { return op(api.TField, 0, inside()) }

// argument is a field of the tuple that the function is called with.
func argument(n int) api.Term { return op(api.TField, n, op(api.TArg, 0)) }

func op(kind, n int, kids ...api.Term) api.Term { return api.Term{Op: kind, N: n, Kids: kids} }

func sign(s string, kids ...api.Term) api.Term { return api.Term{Op: api.TOp, S: s, Kids: kids} }

// base applies a function that is there from the beginning.
func base(name string, to api.Term) api.Term {
	return op(api.TApp, 0, api.Term{Op: api.TBase, S: name}, to)
}

func choose(question, yes, no api.Term) api.Term { return op(api.TIf, 0, question, yes, no) }

// both is a choice by two questions.
func both(first, second, yes, no api.Term) api.Term {
	fail := op(api.TFail, 0)
	return op(api.TCatch, 0, choose(first, choose(second, yes, fail), fail), no)
}
