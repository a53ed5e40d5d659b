package layers

import "mlcore/api"

// What a flat program does, by the words of P10.2. Values are those of plain terms.

type slowFlats struct {
	*slowPlains
	funs  []api.Fun
	known *slowVars // the exceptions that are there from the beginning
}

// slowCall is a call: what its function has caught, its argument, its slots.
type slowCall struct {
	free  []any
	arg   any
	slots []any
}

// slowFlat runs a flat program for so many steps.
func slowFlat(p api.Flat, steps int) (o api.Outcome) {
	s := &slowFlats{slowPlains: newSlowPlains(steps), funs: p.Funs}
	s.known = s.exceptions()
	defer func() { o = s.told(recover()) }()
	s.call(0, nil, nil)
	return o
}

func (s *slowFlats) call(number int, free []any, arg any) any {
	c := &slowCall{free, arg, make([]any, s.funs[number].Slots)}
	for i := range c.slots {
		c.slots[i] = 0
	}
	return s.term(s.funs[number].Body, c)
}

func (s *slowFlats) term(x api.Term, c *slowCall) any {
	s.step()
	kid := func(i int) any { return s.term(x.Kids[i], c) }
	switch x.Op {
	case api.TVar:
		return s.known.find(x.N)
	case api.TSlot:
		return c.slots[x.N]
	case api.TArg:
		return c.arg
	case api.TFree:
		return c.free[x.N]
	case api.TStore:
		c.slots[x.N] = kid(0)
		return kid(1)
	case api.TMake:
		return s.function(x.N, each(x.Kids, kid))
	case api.TFix:
		s.fix(x, c)
		return kid(len(x.Ns))
	case api.TTry:
		v, raised := s.try(func() any { return kid(0) })
		if raised == nil {
			return v
		}
		c.slots[x.N] = plainExn(*raised)
		return kid(1)
	case api.TNewExn:
		c.slots[x.N] = &slowExnID{x.S}
		return kid(0)
	}
	return s.shared(x, kid)
}

func (s *slowFlats) function(number int, free []any) slowFn {
	return func(v any) any { return s.call(number, free, v) }
}

// fix makes functions, which are in their slots before what they catch is read.
func (s *slowFlats) fix(x api.Term, c *slowCall) {
	caught := make([][]any, len(x.Ns))
	for i, slot := range x.Ns {
		s.step()
		caught[i] = make([]any, len(x.Kids[i].Kids))
		c.slots[slot] = s.function(x.Kids[i].N, caught[i])
	}
	for i, free := range caught {
		for j, kid := range x.Kids[i].Kids {
			free[j] = s.term(kid, c)
		}
	}
}
