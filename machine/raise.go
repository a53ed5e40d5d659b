package machine

import (
	"mlcore/api"
	"mlcore/code"
)

// failure is why there is no value: the machine ends as Memory or Wrong, or else (below 0)
// the exception with this number is raised.
type failure int

const (
	nothing  failure = 0 // there is one
	noRoom           = failure(api.Memory)
	isWrong          = failure(api.Wrong)
	overflow failure = -3
	division failure = -4
	bounds   failure = -5
	size     failure = -6
)

// fail does what the failure of an instruction that takes so many values asks for.
func (m *Machine) fail(f failure, takes int) int {
	if f > nothing {
		return int(f)
	}
	block, none := m.thing(api.ObBlock, 0, 1)
	if none != nothing {
		return int(none)
	}
	m.heap.Set(block.N, 0, number(int(f)))
	m.drop(takes)
	return m.raise(block)
}

// isRaisable asks for a block whose first field is an exception.
func (m *Machine) isRaisable(v api.Cell) bool {
	return m.is(v, api.ObBlock) && m.isException(m.heap.Get(v.N, 0))
}

func (m *Machine) isException(v api.Cell) bool {
	if v.Ptr {
		return m.is(v, api.ObExn)
	}
	return -len(code.Exceptions()) <= v.N && v.N <= -1
}

// raise goes on at the last try of the innermost call that has one, or ends the machine.
func (m *Machine) raise(v api.Cell) int {
	for len(m.calls) > 0 {
		if c := m.innermost(); len(m.tries) > c.tries {
			m.handle(c, v)
			return api.Going
		}
		m.leave()
	}
	m.name = m.nameOf(m.heap.Get(v.N, 0))
	return api.Raised
}

// handle goes on at the last try of the innermost call.
func (m *Machine) handle(c *call, v api.Cell) {
	last := len(m.tries) - 1
	t := m.tries[last]
	m.tries = m.tries[:last]
	m.values = m.values[:min(len(m.values), c.values+t.values)]
	m.put(v)
	c.at = t.at
}

// nameOf is the name of an exception.
func (m *Machine) nameOf(v api.Cell) string {
	if v.Ptr {
		return m.code.Texts[m.heap.Get(v.N, 0).N]
	}
	return code.Exceptions()[-1-v.N]
}
