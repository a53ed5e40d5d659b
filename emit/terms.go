package emit

import "mlcore/api"

// place is where a term stands in its function.
type place struct {
	values int    // how many there are ahead of it
	last   bool   // its value is that of the call, and no try is open
	fails  *label // where its TFails go
}

// within is the place of a kid, with so many values more ahead of it.
func (p place) within(more int) place { return place{values: p.values + more, fails: p.fails} }

// term writes a term: behind its instructions its value is on top, or the call has it,
// if the term stands in its last place.
func (w *writer) term(t api.Term, at place) {
	if w.over {
		return
	}
	switch t.Op {
	case api.TIf:
		w.choice(t, at)
	case api.TCatch:
		w.catch(t, at)
	case api.TFail:
		w.fail(at)
	case api.TTry:
		w.attempt(t, at)
	case api.TSeq:
		w.sequence(t.Kids, at)
	case api.TStore:
		w.term(t.Kids[0], at.within(0))
		w.keep(t, at)
	case api.TNewExn:
		w.put(api.Ins{Op: api.InExn, A: w.texts.number(t.S), B: t.Of})
		w.keep(t, at)
	case api.TFix:
		w.functions(t, at)
	case api.TApp:
		w.application(t, at)
	default:
		w.kids(t.Kids, at)
		w.put(w.instruction(t))
		w.give(at)
	}
}

func (w *writer) kids(list []api.Term, at place) {
	for i, kid := range list {
		w.term(kid, at.within(i))
	}
}

// give gives the value on top to the call, if it is its own.
func (w *writer) give(at place) {
	if at.last {
		w.put(api.Ins{Op: api.InReturn})
	}
}

// keep takes a value into the slot of a term, and goes on with the term's last kid.
func (w *writer) keep(t api.Term, at place) {
	w.put(api.Ins{Op: api.InStore, A: t.N})
	w.term(t.Kids[len(t.Kids)-1], at)
}

func (w *writer) sequence(list []api.Term, at place) {
	last := len(list) - 1
	for _, kid := range list[:last] {
		w.term(kid, at.within(0))
		w.put(api.Ins{Op: api.InDrop})
	}
	w.term(list[last], at)
}

// application takes no call of its own where its value is that of the call.
func (w *writer) application(t api.Term, at place) {
	w.kids(t.Kids, at)
	if at.last {
		w.put(api.Ins{Op: api.InTail})
		return
	}
	w.put(api.Ins{Op: api.InCall})
}

// choice goes straight to where it fails, if nothing else is to be done otherwise.
func (w *writer) choice(t api.Term, at place) {
	w.term(t.Kids[0], at.within(0))
	if t.Kids[2].Op == api.TFail && at.values == at.fails.values {
		w.goTo(at.fails, api.InUnless)
		w.term(t.Kids[1], at)
		return
	}
	var otherwise label
	w.goTo(&otherwise, api.InUnless)
	w.term(t.Kids[1], at)
	w.instead(&otherwise, func() { w.term(t.Kids[2], at) })
}

func (w *writer) catch(t api.Term, at place) {
	first, failed := at, label{values: at.values}
	first.fails = &failed
	w.term(t.Kids[0], first)
	w.instead(&failed, func() { w.term(t.Kids[1], at) })
}

// fail drops the values that were put since the catch.
func (w *writer) fail(at place) {
	for range at.values - at.fails.values {
		w.put(api.Ins{Op: api.InDrop})
	}
	w.goTo(at.fails, api.InJump)
}

// attempt has no last place in what is tried: the try is to be over ahead of the call.
func (w *writer) attempt(t api.Term, at place) {
	var raised label
	w.goTo(&raised, api.InTry)
	w.term(t.Kids[0], place{values: at.values})
	w.put(api.Ins{Op: api.InEnd})
	w.give(at)
	w.instead(&raised, func() { w.keep(t, at) })
}

// functions makes all of them ahead of what they catch, which may be one another.
func (w *writer) functions(t api.Term, at place) {
	for i, slot := range t.Ns {
		for range t.Kids[i].Kids {
			w.put(api.Ins{Op: api.InInt})
		}
		w.put(w.instruction(t.Kids[i]), api.Ins{Op: api.InStore, A: slot})
	}
	for i, slot := range t.Ns {
		for j, caught := range t.Kids[i].Kids {
			w.put(w.instruction(caught), api.Ins{Op: api.InPatch, A: slot, B: j})
		}
	}
	w.term(t.Kids[len(t.Ns)], at)
}
