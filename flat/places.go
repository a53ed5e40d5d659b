package flat

import "mlcore/api"

// place is where a function finds a variable's value: the op and the N of the term
// that reads it.
type place struct{ op, n int }

// program is a flat program that is being made.
type program struct {
	funs []api.Fun
	same map[int]int // variables that have what another one has
}

// maker makes the body of a function.
type maker struct {
	*program
	places map[int]place
	caught []int // the variables of the function's TFrees, in their order
	slots  int
}

// add adds a function, and tells its number and the variables that it catches. The
// number is taken first: functions within this one come behind it.
func (p *program) add(arguments []api.Pat, body api.Term) (number int, caught []int) {
	number = len(p.funs)
	p.funs = append(p.funs, api.Fun{})
	m := &maker{program: p, places: map[int]place{}}
	for _, a := range arguments {
		m.places[a.N] = place{op: api.TArg}
	}
	made := m.term(body, 0)
	p.funs[number] = api.Fun{Free: len(m.caught), Slots: m.slots, Body: made}
	return number, m.caught
}

// alias makes a variable one that has what another one has. A variable is bound once,
// so that this holds in every function.
func (p *program) alias(v, of int) { p.same[v] = p.origin(of) }

func (p *program) origin(v int) int {
	if of, ok := p.same[v]; ok {
		return of
	}
	return v
}

// variable reads a variable. One that is not bound in the function is caught by it,
// once; exceptions of the beginning are there in every function.
func (m *maker) variable(at, v int) api.Term {
	v = m.origin(v)
	if v < 0 {
		return api.Term{Op: api.TVar, At: at, N: v}
	}
	from, ok := m.places[v]
	if !ok {
		from = place{api.TFree, len(m.caught)}
		m.places[v] = from
		m.caught = append(m.caught, v)
	}
	return api.Term{Op: from.op, At: at, N: from.n}
}

// keep gives a variable a slot.
func (m *maker) keep(v, slot int) {
	m.places[v] = place{api.TSlot, slot}
	m.slots = max(m.slots, slot+1)
}
