package machine

import (
	"strconv"
	"strings"

	"mlcore/api"
)

// base is what a function that is there from the beginning makes of its argument, which is
// the top.
func (m *Machine) base(name string, v api.Cell) (api.Cell, failure) {
	switch name {
	case "not", "str", "chr":
		if v.Ptr {
			return api.Cell{}, isWrong
		}
		return m.ofNumber(name, v.N)
	case "print", "size":
		if !m.is(v, api.ObText) {
			return api.Cell{}, isWrong
		}
		if name == "size" {
			return number(m.heap.Tag(v.N)), nothing
		}
		return m.printed(m.bytesOf(v))
	case "length":
		if !m.isCells(v, ofArray) {
			return api.Cell{}, isWrong
		}
		return number(m.heap.Len(v.N)), nothing
	case "ref":
		t, f := m.thing(api.ObCells, ofReference, 1)
		if f == nothing {
			m.heap.Set(t.N, 0, m.top(0))
		}
		return t, f
	case "array":
		return m.array(v)
	case "sub", "part":
		return m.ofText(name, v)
	default: // at, put
		return m.ofArray(name, v)
	}
}

func (m *Machine) ofNumber(name string, n int) (api.Cell, failure) {
	switch name {
	case "not":
		return truth(n == 0), nothing
	case "str":
		return m.text(strings.Replace(strconv.Itoa(n), "-", "~", 1))
	}
	if n < 0 || n > 255 {
		return api.Cell{}, bounds
	}
	return m.text(string([]byte{byte(n)}))
}

func (m *Machine) printed(s string) (api.Cell, failure) {
	if len(m.out)+len(s) > api.MaxOut {
		return api.Cell{}, size
	}
	m.out = append(m.out, s...)
	return number(0), nothing
}

// isTuple asks for a block with so many fields.
func (m *Machine) isTuple(v api.Cell, n int) bool {
	return m.is(v, api.ObBlock) && m.heap.Len(v.N) == n
}

// array makes an array of as many cells as the tuple on top says.
func (m *Machine) array(v api.Cell) (api.Cell, failure) {
	if !m.isTuple(v, 2) || m.heap.Get(v.N, 0).Ptr {
		return api.Cell{}, isWrong
	}
	n := m.heap.Get(v.N, 0).N
	if n < 0 || n > api.MaxArray {
		return api.Cell{}, size
	}
	t, f := m.thing(api.ObCells, ofArray, n)
	if f == nothing {
		for i := range n {
			m.heap.Set(t.N, i, m.heap.Get(m.top(0).N, 1))
		}
	}
	return t, f
}

// ofText is sub (s, i) and part (s, i, n).
func (m *Machine) ofText(name string, v api.Cell) (api.Cell, failure) {
	fields := 2
	if name == "part" {
		fields = 3
	}
	if !m.isTuple(v, fields) || !m.is(m.heap.Get(v.N, 0), api.ObText) || m.heap.Get(v.N, 1).Ptr {
		return api.Cell{}, isWrong
	}
	s, i := m.bytesOf(m.heap.Get(v.N, 0)), m.heap.Get(v.N, 1).N
	if name == "part" {
		return m.part(s, i, m.heap.Get(v.N, 2))
	}
	if i < 0 || i >= len(s) {
		return api.Cell{}, bounds
	}
	return number(int(s[i])), nothing
}

func (m *Machine) part(s string, i int, n api.Cell) (api.Cell, failure) {
	if n.Ptr {
		return api.Cell{}, isWrong
	}
	if i < 0 || n.N < 0 || i+n.N > len(s) {
		return api.Cell{}, bounds
	}
	return m.text(s[i : i+n.N])
}

// ofArray is at (a, i) and put (a, i, v).
func (m *Machine) ofArray(name string, v api.Cell) (api.Cell, failure) {
	fields := 2
	if name == "put" {
		fields = 3
	}
	if !m.isTuple(v, fields) || !m.isCells(m.heap.Get(v.N, 0), ofArray) || m.heap.Get(v.N, 1).Ptr {
		return api.Cell{}, isWrong
	}
	a, i := m.heap.Get(v.N, 0).N, m.heap.Get(v.N, 1).N
	if i < 0 || i >= m.heap.Len(a) {
		return api.Cell{}, bounds
	}
	if name == "at" {
		return m.heap.Get(a, i), nothing
	}
	m.heap.Set(a, i, m.heap.Get(v.N, 2))
	return number(0), nothing
}
