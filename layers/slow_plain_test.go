package layers

import (
	"fmt"

	"mlcore/api"
)

// What a plain term does, by the words of P9.2. Numbers are ints, exceptions
// *slowExnIDs, and strings, functions and cells those of the second meaning. What is
// not spoken of there is a plainWrong.

type (
	plainBlock struct {
		tag    int
		fields []any
	}
	plainWrong string
	plainFail  struct{}
)

type slowPlains struct {
	*slow
	first slowNames
}

// slowPlain evaluates a plain term for so many steps.
func slowPlain(x api.Term, steps int) (o api.Outcome) {
	s := newSlowPlains(steps)
	defer func() { o = s.told(recover()) }()
	s.term(x, s.exceptions())
	return o
}

func newSlowPlains(steps int) *slowPlains {
	s := &slowPlains{slow: &slow{left: steps}}
	s.first = s.beginning()
	return s
}

// told is an outcome as the second meaning tells it, or Wrong.
func (s *slowPlains) told(end any) api.Outcome {
	if w, wrong := end.(plainWrong); wrong {
		return api.Outcome{Kind: api.Wrong, Name: string(w), Out: s.out, Steps: s.steps}
	}
	return s.slow.told(end)
}

// exceptions is the variables that are there from the beginning.
func (s *slowPlains) exceptions() (e *slowVars) {
	for i, name := range []string{"Match", "Bind", "Overflow", "Div", "Bounds", "Size"} {
		e = e.with(-1-i, s.first.find("value", name).con)
	}
	return e
}

// as is a value as it has to be.
func as[T any](v any) T {
	x, ok := v.(T)
	if !ok {
		panic(plainWrong(fmt.Sprintf("%T %v, and not %T", v, v, x)))
	}
	return x
}

func (s *slowPlains) term(x api.Term, e *slowVars) any {
	s.step()
	kid := func(i int) any { return s.term(x.Kids[i], e) }
	with := func(i int, v any) any { return s.term(x.Kids[i], e.with(x.Pats[0].N, v)) }
	switch x.Op {
	case api.TVar:
		return e.find(x.N)
	case api.TFn:
		return slowFn(func(v any) any { return with(0, v) })
	case api.TLet:
		return with(1, kid(0))
	case api.TTry:
		v, raised := s.try(func() any { return kid(0) })
		if raised == nil {
			return v
		}
		return with(1, plainExn(*raised))
	case api.TFuns:
		return s.funs(x, e)
	case api.TNewExn:
		return s.term(x.Kids[0], e.with(x.N, &slowExnID{x.S}))
	}
	return s.shared(x, kid)
}

// shared evaluates a term of an op that binds nothing: flat programs have it, too.
func (s *slowPlains) shared(x api.Term, kid func(int) any) any {
	switch x.Op {
	case api.TInt:
		return x.N
	case api.TStr:
		return x.S
	case api.TBase:
		return s.base(x.S)
	case api.TApp:
		f := as[slowFn](kid(0))
		return f(kid(1))
	case api.TIf:
		if as[int](kid(0)) == 1 {
			return kid(1)
		}
		return kid(2)
	case api.TOp:
		return s.operator(x.S, each(x.Kids, kid))
	case api.TSeq:
		l := each(x.Kids, kid)
		return l[len(l)-1]
	case api.TRaise:
		panic(raisedBy(as[*plainBlock](kid(0))))
	}
	return s.blocks(x, kid)
}

// each is the values of all kids, from the left.
func each(kids []api.Term, kid func(int) any) slowTuple {
	all := slowTuple{}
	for i := range kids {
		all = append(all, kid(i))
	}
	return all
}

// blocks evaluates a term of an op that plain terms alone have.
func (s *slowPlains) blocks(x api.Term, kid func(int) any) any {
	switch x.Op {
	case api.TIs:
		v := kid(0)
		if b, ok := v.(*plainBlock); ok {
			return plainTruth(x.Of == 1 && b.tag == x.N)
		}
		return plainTruth(x.Of == 0 && v == any(x.N))
	case api.TField:
		b := as[*plainBlock](kid(0))
		if x.N >= len(b.fields) {
			panic(plainWrong("no such field"))
		}
		return b.fields[x.N]
	case api.TBlock:
		return &plainBlock{x.N, each(x.Kids, kid)}
	case api.TSame:
		return plainTruth(same(kid(0), kid(1)))
	case api.TCatch:
		if v, ok := caught(func() any { return kid(0) }); ok {
			return v
		}
		return kid(1)
	case api.TFail:
		panic(plainFail{})
	}
	panic(plainWrong(fmt.Sprint("no op ", x.Op)))
}

func (s *slowPlains) funs(x api.Term, e *slowVars) any {
	list := make([]slowFn, len(x.Ns))
	for i, n := range x.Ns {
		e = e.with(n, slowFn(func(v any) any { return list[i](v) }))
	}
	for i := range list {
		list[i] = as[slowFn](s.term(x.Kids[i], e))
	}
	return s.term(x.Kids[len(list)], e)
}

// caught is a value, unless there is a TFail on the way to it.
func caught(thing func() any) (v any, ok bool) {
	defer func() {
		switch x := recover().(type) {
		case nil:
		case plainFail:
			ok = false
		default:
			panic(x)
		}
	}()
	return thing(), true
}

// raisedBy is what the second meaning raises for a block.
func raisedBy(b *plainBlock) slowExn {
	switch {
	case b.tag == 0 && len(b.fields) == 1:
		return slowExn{by: as[*slowExnID](b.fields[0])}
	case b.tag == 0 && len(b.fields) == 2:
		return slowExn{as[*slowExnID](b.fields[0]), b.fields[1]}
	}
	panic(plainWrong("no value of an exception"))
}

// plainExn is the block of what was raised.
func plainExn(x slowExn) *plainBlock {
	b := &plainBlock{fields: []any{x.by}}
	if x.arg != nil {
		b.fields = append(b.fields, x.arg)
	}
	return b
}

func plainTruth(b bool) any {
	if b {
		return 1
	}
	return 0
}

// same asks what TSame asks.
func same(a, b any) bool {
	if fmt.Sprintf("%T", a) != fmt.Sprintf("%T", b) {
		return false
	}
	switch a.(type) {
	case int, *slowExnID, *slowCell:
		return a == b
	}
	panic(plainWrong(fmt.Sprintf("TSame of two %T", a)))
}

// base is a function that is there from the beginning. Those of the second meaning
// have other tuples, units and truth values.
func (s *slowPlains) base(name string) slowFn {
	f := as[slowFn](s.first.find("value", name).value)
	arguments := map[string]int{"sub": 2, "part": 3, "array": 2, "at": 2, "put": 3}[name]
	return func(v any) any {
		switch {
		case name == "not":
			return plainTruth(as[int](v) == 0)
		case arguments == 0:
			return plainAnswer(known(func() any { return f(v) }))
		}
		b := as[*plainBlock](v)
		if b.tag != 0 || len(b.fields) != arguments {
			panic(plainWrong("no tuple for " + name))
		}
		return plainAnswer(known(func() any { return f(slowTuple(b.fields)) }))
	}
}

func (s *slowPlains) operator(sign string, l slowTuple) any {
	f := as[slowFn](s.first.find("operator", sign).value)
	switch sign {
	case "=":
		return plainTruth(s.alike(l[0], l[1]))
	case "<>":
		return plainTruth(!s.alike(l[0], l[1]))
	}
	return plainAnswer(known(func() any { return f(l) }))
}

// known does what the second meaning does: where that does not know a value, it is wrong.
func known(thing func() any) any {
	defer func() {
		switch x := recover().(type) {
		case nil:
		case error:
			panic(plainWrong(x.Error()))
		default:
			panic(x)
		}
	}()
	return thing()
}

func plainAnswer(v any) any {
	switch v := v.(type) {
	case slowCon:
		return v.number
	case slowTuple:
		return 0
	}
	return v
}

// alike compares two values, the next two that wait for it first.
func (s *slowPlains) alike(a, b any) bool {
	wait := [][2]any{{a, b}}
	for pairs := 1; len(wait) > 0; pairs++ {
		if pairs > 1000 {
			panic(slowExn{by: s.exceptions().find(-6).(*slowExnID)})
		}
		a, b := wait[0][0], wait[0][1]
		wait = wait[1:]
		x, isBlock := a.(*plainBlock)
		y, areBlocks := b.(*plainBlock)
		if areBlocks = isBlock && areBlocks; !areBlocks {
			if _, isFn := a.(slowFn); isFn {
				panic(plainWrong("functions are compared"))
			}
			if a != b {
				return false
			}
			continue
		}
		if x.tag != y.tag || len(x.fields) != len(y.fields) {
			return false
		}
		var fields [][2]any
		for i := range x.fields {
			fields = append(fields, [2]any{x.fields[i], y.fields[i]})
		}
		wait = append(fields, wait...)
	}
	return true
}
