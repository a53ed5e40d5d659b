package machine

import "mlcore/api"

// sign is what a sign makes of the values on top.
func (m *Machine) sign(s string) (api.Cell, failure) {
	last := m.top(0)
	switch s {
	case "!":
		if !m.isCells(last, ofReference) {
			return api.Cell{}, isWrong
		}
		return m.heap.Get(last.N, 0), nothing
	case "~":
		if last.Ptr {
			return api.Cell{}, isWrong
		}
		return inRange(-last.N)
	case "=":
		return m.compared(m.top(1), last, true)
	case "<>":
		return m.compared(m.top(1), last, false)
	case "^":
		return m.joined(m.top(1), last)
	case ":=":
		return m.assigned(m.top(1), last)
	}
	if m.top(1).Ptr || last.Ptr {
		return api.Cell{}, isWrong
	}
	return reckoned(s, m.top(1).N, last.N)
}

// reckoned is what a sign makes of two numbers.
func reckoned(s string, a, b int) (api.Cell, failure) {
	switch s {
	case "+":
		return inRange(a + b)
	case "-":
		return inRange(a - b)
	case "*":
		return inRange(a * b)
	case "<":
		return truth(a < b), nothing
	case "<=":
		return truth(a <= b), nothing
	case ">":
		return truth(a > b), nothing
	case ">=":
		return truth(a >= b), nothing
	}
	if b == 0 {
		return api.Cell{}, division
	}
	if s == "/" {
		return inRange(a / b)
	}
	return inRange(a % b)
}

func inRange(n int) (api.Cell, failure) {
	if n < -api.MaxInt || n > api.MaxInt {
		return api.Cell{}, overflow
	}
	return number(n), nothing
}

func (m *Machine) joined(a, b api.Cell) (api.Cell, failure) {
	if !m.is(a, api.ObText) || !m.is(b, api.ObText) {
		return api.Cell{}, isWrong
	}
	if m.heap.Tag(a.N)+m.heap.Tag(b.N) > api.MaxStr {
		return api.Cell{}, size
	}
	return m.text(m.bytesOf(a) + m.bytesOf(b))
}

func (m *Machine) assigned(a, v api.Cell) (api.Cell, failure) {
	if !m.isCells(a, ofReference) {
		return api.Cell{}, isWrong
	}
	m.heap.Set(a.N, 0, v)
	return number(0), nothing
}

// comparison compares two values, and counts the pairs that it looks at.
type comparison struct {
	*Machine
	pairs int
}

// compared says whether two values are alike, or are not.
func (m *Machine) compared(a, b api.Cell, alike bool) (api.Cell, failure) {
	c := &comparison{Machine: m}
	are := c.alike(a, b)
	if c.pairs > api.MaxSame {
		return api.Cell{}, size
	}
	return truth(are == alike), nothing
}

func (c *comparison) alike(a, b api.Cell) bool {
	c.pairs++
	switch {
	case c.pairs > api.MaxSame:
		return false
	case c.is(a, api.ObText) && c.is(b, api.ObText):
		return c.alikeThings(a.N, b.N, same)
	case c.is(a, api.ObBlock) && c.is(b, api.ObBlock):
		return c.alikeThings(a.N, b.N, c.alike)
	}
	return same(a, b)
}

// same asks for the same number or thing.
func same(a, b api.Cell) bool { return a == b }

// alikeThings compares two things of one kind: fields is how it does their fields.
func (c *comparison) alikeThings(a, b int, fields func(a, b api.Cell) bool) bool {
	h := c.heap
	if h.Tag(a) != h.Tag(b) || h.Len(a) != h.Len(b) {
		return false
	}
	for i := range h.Len(a) {
		if !fields(h.Get(a, i), h.Get(b, i)) {
			return false
		}
	}
	return true
}
