package layers

import (
	"fmt"
	"slices"
	"strings"
	"testing"

	"mlcore/api"
)

// plainForm holds terms to the form of P9.2.
type plainForm struct {
	vars    *slowVars // that are bound there
	catches bool      // is there a TCatch that a TFail would belong to?
}

// kidsOf is how many Kids each op of a plain term has, at least and at most.
func kidsOf(op int) (least, most int, known bool) {
	const any = 1 << 30
	switch op {
	case api.TInt, api.TStr, api.TBase, api.TVar, api.TFail:
		return 0, 0, true
	case api.TFn, api.TRaise, api.TNewExn, api.TIs, api.TField:
		return 1, 1, true
	case api.TApp, api.TLet, api.TTry, api.TSame, api.TCatch:
		return 2, 2, true
	case api.TIf:
		return 3, 3, true
	case api.TOp:
		return 1, 2, true
	case api.TSeq, api.TFuns:
		return 2, any, true
	case api.TBlock:
		return 1, any, true
	}
	return 0, 0, false
}

// fault is the first thing that is not as P9.2 says; none: "".
func (f plainForm) fault(x api.Term) string {
	least, most, known := kidsOf(x.Op)
	if !known || len(x.Kids) < least || len(x.Kids) > most {
		return fmt.Sprintf("op %d with %d kids", x.Op, len(x.Kids))
	}
	if s := f.fields(x); s != "" {
		return fmt.Sprintf("op %d: %s", x.Op, s)
	}
	for i, kid := range x.Kids {
		if s := f.within(x, i).fault(kid); s != "" {
			return s
		}
	}
	return ""
}

// onlyHas looks for fields that a term has, but may not have: of N, Of, S (the words
// that it may be, or any), Pats and Ns.
func onlyHas(x api.Term, n, of bool, s string, pats, ns bool) string {
	switch {
	case !n && x.N != 0:
		return "N"
	case !of && x.Of != 0:
		return "Of"
	case s == "" && x.S != "":
		return "S"
	case s != "" && s != "any" && !slices.Contains(strings.Fields(s), x.S):
		return "S " + x.S
	case !pats && len(x.Pats) > 0:
		return "Pats"
	case !ns && len(x.Ns) > 0:
		return "Ns"
	}
	return ""
}

// and is what is wrong with a term, or that something else is.
func and(ok bool, s string) string {
	if s == "" && !ok {
		return "a field that may not be"
	}
	return s
}

// fields looks at what a term has beside its Kids.
func (f plainForm) fields(x api.Term) string {
	has := func(n, of bool, s string, pats, ns bool) string { return onlyHas(x, n, of, s, pats, ns) }
	switch x.Op {
	case api.TInt:
		return has(true, false, "", false, false)
	case api.TStr:
		return has(false, false, "any", false, false)
	case api.TBase:
		return has(false, false, "not print str size sub part chr ref array length at put", false, false)
	case api.TVar:
		return and(f.vars.has(x.N) || -6 <= x.N && x.N <= -1, has(true, false, "", false, false))
	case api.TFn, api.TLet, api.TTry:
		return and(oneVar(x.Pats), has(false, false, "", true, false))
	case api.TOp:
		signs := "+ - * / % < <= > >= = <> ^ :="
		if len(x.Kids) == 1 {
			signs = "! ~"
		}
		return has(false, false, signs, false, false)
	case api.TFuns:
		last := len(x.Kids) - 1
		functions := !slices.ContainsFunc(x.Kids[:last], func(k api.Term) bool { return k.Op != api.TFn })
		bound := !slices.ContainsFunc(x.Ns, func(n int) bool { return n <= 0 })
		return and(functions && bound && len(x.Ns) == last, has(false, false, "", false, true))
	case api.TNewExn:
		return and(x.N > 0 && (x.Of == 0 || x.Of == 1), has(true, true, "any", false, false))
	case api.TIs:
		return and(x.Of == 0 || x.Of == 1 && x.N >= 0, has(true, true, "", false, false))
	case api.TField, api.TBlock:
		return and(x.N >= 0, has(true, false, "", false, false))
	case api.TFail:
		return and(f.catches, has(false, false, "", false, false))
	}
	return has(false, false, "", false, false)
}

// oneVar asks for one PtVar with N above 0, and nothing else in it.
func oneVar(pats []api.Pat) bool {
	return len(pats) == 1 && pats[0].Kind == api.PtVar && pats[0].N > 0 && pats[0].Of == 0 && pats[0].S == "" && len(pats[0].Kids) == 0
}

// within is what holds in a kid of a term.
func (f plainForm) within(x api.Term, i int) plainForm {
	last := i == len(x.Kids)-1
	bind := func(ns ...int) {
		for _, n := range ns {
			f.vars = f.vars.with(n, nil)
		}
	}
	switch x.Op {
	case api.TFn:
		f.catches = false
		bind(x.Pats[0].N)
	case api.TLet:
		if last {
			bind(x.Pats[0].N)
		}
	case api.TTry:
		if last {
			bind(x.Pats[0].N)
		} else {
			f.catches = false
		}
	case api.TFuns:
		bind(x.Ns...)
	case api.TNewExn:
		bind(x.N)
	case api.TCatch:
		f.catches = f.catches || i == 0
	}
	return f
}

// The form is told from what is not of it.
func TestP9_2Others(t *testing.T) {
	leaf := func(op int) api.Term { return api.Term{Op: op} }
	of := func(op int, kids ...api.Term) api.Term { return api.Term{Op: op, Kids: kids} }
	variable := func(n int) api.Term { return api.Term{Op: api.TVar, N: n} }
	bind := func(op, n int, kids ...api.Term) api.Term {
		return api.Term{Op: op, Pats: []api.Pat{{Kind: api.PtVar, N: n}}, Kids: kids}
	}
	funs := func(ns []int, kids ...api.Term) api.Term { return api.Term{Op: api.TFuns, Ns: ns, Kids: kids} }
	one, fail := leaf(api.TInt), leaf(api.TFail)
	for _, x := range []api.Term{
		one, bind(api.TFn, 1, variable(1)), bind(api.TLet, 1, one, variable(1)), bind(api.TTry, 1, one, variable(1)), variable(-6), funs([]int{1, 2}, bind(api.TFn, 3, variable(2)), bind(api.TFn, 3, variable(1)), variable(2)),
		of(api.TCatch, of(api.TIf, one, one, fail), one), of(api.TCatch, of(api.TCatch, one, fail), one), of(api.TCatch, bind(api.TTry, 1, one, fail), one), of(api.TCatch, bind(api.TFn, 1, of(api.TCatch, fail, one)), one),
		{Op: api.TIs, N: -3, Kids: []api.Term{one}}, {Op: api.TIs, N: 3, Of: 1, Kids: []api.Term{one}}, {Op: api.TNewExn, N: 1, S: "E", Kids: []api.Term{variable(1)}},
	} {
		if s := (plainForm{}).fault(x); s != "" {
			t.Errorf("%v: %s", x, s)
		}
	}
	for _, x := range []api.Term{
		leaf(api.TTuple), leaf(api.TCon), of(api.TCase, one), leaf(api.TSlot), leaf(-1), variable(0), variable(1), variable(-7), of(api.TApp, one), of(api.TIf, one, one), of(api.TSeq, one), leaf(api.TBlock), {Op: api.TInt, S: "a"}, {Op: api.TInt, Of: 1}, {Op: api.TInt, Ns: []int{1}}, {Op: api.TStr, N: 1}, {Op: api.TBase, S: "f"},
		bind(api.TFn, 0, one), bind(api.TLet, 1, variable(1), one), bind(api.TTry, 1, variable(1), one), {Op: api.TFn, Kids: []api.Term{one}}, {Op: api.TFn, Pats: []api.Pat{{Kind: api.PtAny, N: 1}}, Kids: []api.Term{one}}, bind(api.TApp, 1, one, one), of(api.TFuns, one), funs([]int{1}, one, one), funs([]int{1, 2}, bind(api.TFn, 3, one), one), funs([]int{0}, bind(api.TFn, 3, one), one),
		{Op: api.TOp, S: "::", Kids: []api.Term{one, one}}, {Op: api.TOp, S: "!", Kids: []api.Term{one, one}}, {Op: api.TOp, S: "+", Kids: []api.Term{one}}, {Op: api.TIs, Of: 2, Kids: []api.Term{one}}, {Op: api.TIs, N: -1, Of: 1, Kids: []api.Term{one}}, {Op: api.TField, N: -1, Kids: []api.Term{one}}, {Op: api.TBlock, N: -1, Kids: []api.Term{one}}, {Op: api.TNewExn, S: "E", Kids: []api.Term{one}},
		fail, of(api.TCatch, one, fail), of(api.TCatch, bind(api.TFn, 1, fail), one), of(api.TCatch, funs([]int{1}, bind(api.TFn, 2, fail), one), one), of(api.TCatch, bind(api.TTry, 1, fail, one), one), of(api.TCatch, of(api.TApp, one, bind(api.TLet, 1, one, variable(2))), one),
	} {
		if s := (plainForm{}).fault(x); s == "" {
			t.Errorf("%v has the form", x)
		}
	}
}
