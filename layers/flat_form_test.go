package layers

import (
	"fmt"
	"slices"
	"testing"

	"mlcore/api"
)

// flatForm holds the body of a function of a flat program to the form of P10.2.
type flatForm struct {
	funs    []api.Fun
	number  int  // of the function
	catches bool // is there a TCatch that a TFail would belong to?
}

// flatFault is the first thing that is not as P10.2 says; none: "".
func flatFault(p api.Flat) string {
	if len(p.Funs) == 0 || p.Funs[0].Free != 0 {
		return "no function to begin with"
	}
	for i, f := range p.Funs {
		if f.Free < 0 || f.Slots < 0 || f.Slots > 60000 {
			return fmt.Sprintf("function %d: Free %d, Slots %d", i, f.Free, f.Slots)
		}
		if s := (flatForm{p.Funs, i, false}).fault(f.Body); s != "" {
			return fmt.Sprintf("function %d: %s", i, s)
		}
	}
	return ""
}

// flatKids is how many Kids each op of a flat program has, at least and at most.
func flatKids(op int) (least, most int, known bool) {
	switch op {
	case api.TFn, api.TFuns, api.TLet:
		return 0, 0, false
	case api.TSlot, api.TArg, api.TFree:
		return 0, 0, true
	case api.TStore:
		return 2, 2, true
	case api.TMake:
		return 0, 1 << 30, true
	case api.TFix:
		return 2, 1 << 30, true
	}
	return kidsOf(op)
}

func (f flatForm) fault(x api.Term) string {
	least, most, known := flatKids(x.Op)
	if !known || len(x.Kids) < least || len(x.Kids) > most {
		return fmt.Sprintf("op %d with %d kids", x.Op, len(x.Kids))
	}
	if s := f.fields(x); s != "" {
		return fmt.Sprintf("op %d: %s", x.Op, s)
	}
	for i, kid := range x.Kids {
		if s := f.within(x, i).fault(kid); s != "" {
			return s
		}
	}
	return ""
}

// fields looks at what a term has beside its Kids.
func (f flatForm) fields(x api.Term) string {
	own := f.funs[f.number]
	isSlot := func(n int) bool { return 0 <= n && n < own.Slots }
	switch x.Op {
	case api.TSlot, api.TStore, api.TTry:
		return and(isSlot(x.N), onlyHas(x, true, false, "", false, false))
	case api.TArg:
		return and(f.number > 0, onlyHas(x, false, false, "", false, false))
	case api.TFree:
		return and(0 <= x.N && x.N < own.Free, onlyHas(x, true, false, "", false, false))
	case api.TMake:
		made := 0 < x.N && x.N < len(f.funs) && f.funs[x.N].Free == len(x.Kids)
		return and(made, onlyHas(x, true, false, "", false, false))
	case api.TFix:
		last := len(x.Kids) - 1
		other := func(n int) bool { return !isSlot(n) }
		return and(len(x.Ns) == last && !slices.ContainsFunc(x.Ns, other) && !slices.ContainsFunc(x.Kids[:last], catchesMore), onlyHas(x, false, false, "", false, true))
	case api.TNewExn:
		return and(isSlot(x.N) && (x.Of == 0 || x.Of == 1), onlyHas(x, true, true, "any", false, false))
	}
	return plainForm{catches: f.catches}.fields(x)
}

// catchesMore asks whether a term is not a TMake that catches TSlots, TFrees and TArgs alone.
func catchesMore(x api.Term) bool {
	return x.Op != api.TMake || slices.ContainsFunc(x.Kids, func(k api.Term) bool {
		return k.Op != api.TSlot && k.Op != api.TFree && k.Op != api.TArg
	})
}

// within is what holds in a kid of a term.
func (f flatForm) within(x api.Term, i int) flatForm {
	switch {
	case x.Op == api.TTry && i == 0:
		f.catches = false
	case x.Op == api.TCatch:
		f.catches = f.catches || i == 0
	}
	return f
}

// The form is told from what is not of it.
func TestP10_2Others(t *testing.T) {
	of := func(op, n int, kids ...api.Term) api.Term { return api.Term{Op: op, N: n, Kids: kids} }
	fix := func(ns []int, kids ...api.Term) api.Term { return api.Term{Op: api.TFix, Ns: ns, Kids: kids} }
	one, fail, slot, arg, free := of(api.TInt, 1), of(api.TFail, 0), of(api.TSlot, 1), of(api.TArg, 0), of(api.TFree, 1)
	variable := of(api.TVar, -6)
	// Functions 1 and 2 catch two values and nothing, and have two slots.
	program := func(begins, body api.Term) api.Flat {
		return api.Flat{Funs: []api.Fun{{Slots: 2, Body: begins}, {Free: 2, Slots: 2, Body: body}, {Body: one}}}
	}
	for _, x := range []api.Term{
		one, slot, variable, of(api.TStore, 1, one, slot), of(api.TMake, 1, one, slot), of(api.TMake, 2), of(api.TTry, 0, one, one), {Op: api.TNewExn, S: "E", Of: 1, Kids: []api.Term{one}},
		fix([]int{0}, of(api.TMake, 1, slot, slot), one), fix([]int{0, 1}, of(api.TMake, 1, slot, slot), of(api.TMake, 2), one), of(api.TCatch, 0, fail, one), of(api.TCatch, 0, of(api.TTry, 0, one, fail), one), of(api.TCatch, 0, of(api.TStore, 0, fail, fail), one), of(api.TCatch, 0, of(api.TCatch, 0, one, fail), one),
	} {
		if s := flatFault(program(x, x)); s != "" {
			t.Errorf("%v: %s", x, s)
		}
	}
	for _, x := range []api.Term{arg, free, fix([]int{0}, of(api.TMake, 1, arg, free), one)} {
		if s := flatFault(program(one, x)); s != "" {
			t.Errorf("%v: %s", x, s)
		}
		if s := flatFault(program(x, one)); s == "" {
			t.Errorf("%v where the program begins", x)
		}
	}
	bound := []api.Pat{{Kind: api.PtVar, N: 1}}
	for _, x := range []api.Term{
		of(api.TVar, 1), of(api.TVar, 0), of(api.TVar, -7), {Op: api.TFn, Pats: bound, Kids: []api.Term{one}}, {Op: api.TLet, Pats: bound, Kids: []api.Term{one, one}}, {Op: api.TFuns, Ns: []int{1}, Kids: []api.Term{{Op: api.TFn, Pats: bound, Kids: []api.Term{one}}, one}}, of(api.TTuple, 0), of(-1, 0), of(api.TFix+1, 0), {Op: api.TTry, Pats: bound, Kids: []api.Term{one, one}},
		of(api.TSlot, 2), of(api.TSlot, -1), of(api.TFree, 2), of(api.TFree, -1), of(api.TArg, 1), of(api.TStore, 2, one, one), of(api.TStore, -1, one, one), of(api.TStore, 0, one), of(api.TTry, 2, one, one), of(api.TNewExn, 2, one), {Op: api.TNewExn, Of: 2, Kids: []api.Term{one}},
		of(api.TMake, 0), of(api.TMake, 3), of(api.TMake, -1), of(api.TMake, 1, one), of(api.TMake, 2, one), {Op: api.TMake, N: 2, Ns: []int{1}}, fix(nil, one), fix([]int{2}, of(api.TMake, 2), one), fix([]int{0}, one, one), fix([]int{0, 1}, of(api.TMake, 2), one), fix([]int{0}, of(api.TMake, 2)), fix([]int{0}, of(api.TMake, 1, one, slot), one), fix([]int{0}, of(api.TMake, 1, variable, slot), one),
		fail, of(api.TCatch, 0, one, fail), of(api.TCatch, 0, of(api.TTry, 0, fail, one), one), of(api.TApp, 0, one, of(api.TSlot, 5)), of(api.TApp, 0, one), {Op: api.TOp, S: "::", Kids: []api.Term{one, one}},
	} {
		if s := flatFault(program(one, x)); s == "" {
			t.Errorf("%v has the form", x)
		}
	}
	for _, p := range []api.Flat{{}, {Funs: []api.Fun{{Free: 1, Body: one}}}, {Funs: []api.Fun{{Slots: 60001, Body: one}}}, {Funs: []api.Fun{{Slots: -1, Body: one}}}, {Funs: []api.Fun{{Body: one}, {Free: -1, Body: one}}}} {
		if s := flatFault(p); s == "" {
			t.Errorf("%v has the form", p)
		}
	}
}
