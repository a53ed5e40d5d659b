package machine

import "mlcore/api"

// firstBase is the tag of the first function of those that are there from the beginning.
const firstBase = 60000

// The tags of cells.
const (
	ofReference = iota
	ofArray
)

// wide is how many bytes of a text stand in a field.
const wide = 8

func number(n int) api.Cell { return api.Cell{N: n} }

func truth(is bool) api.Cell {
	if is {
		return number(1)
	}
	return number(0)
}

// thing makes a thing. It may move all others: what was read ahead of it, and is no number,
// has to be read again.
func (m *Machine) thing(kind, tag, fields int) (api.Cell, failure) {
	a, e := m.heap.Make(kind, tag, fields, m.roots)
	if e != api.OK {
		return api.Cell{}, noRoom
	}
	return api.Cell{Ptr: true, N: a}, nothing
}

// gathered makes a thing of the last n values.
func (m *Machine) gathered(kind, tag, n int) (api.Cell, failure) {
	t, f := m.thing(kind, tag, n)
	if f == nothing {
		for i := range n {
			m.heap.Set(t.N, i, m.top(n-1-i))
		}
	}
	return t, f
}

// exception makes a new exception: its name is a text of the code.
func (m *Machine) exception(text, takes int) (api.Cell, failure) {
	t, f := m.thing(api.ObExn, takes, 1)
	if f == nothing {
		m.heap.Set(t.N, 0, number(text))
	}
	return t, f
}

func (m *Machine) text(s string) (api.Cell, failure) {
	t, f := m.thing(api.ObText, len(s), (len(s)+wide-1)/wide)
	if f == nothing {
		for i := range m.heap.Len(t.N) {
			m.heap.Set(t.N, i, number(packed(s[wide*i:])))
		}
	}
	return t, f
}

// packed is the first bytes of a text as a number, the first one as its highest.
func packed(s string) int {
	var n uint64
	for i := range wide {
		n <<= 8
		if i < len(s) {
			n |= uint64(s[i])
		}
	}
	return int(n)
}

// bytesOf is what a text says.
func (m *Machine) bytesOf(t api.Cell) string {
	s := make([]byte, 0, api.MaxStr)
	for i := range m.heap.Len(t.N) {
		n := uint64(m.heap.Get(t.N, i).N)
		for rest := wide - 1; rest >= 0; rest-- {
			s = append(s, byte(n>>(8*rest)))
		}
	}
	return string(s[:m.heap.Tag(t.N)])
}

// is asks for a thing of a kind.
func (m *Machine) is(v api.Cell, kind int) bool { return v.Ptr && m.heap.Kind(v.N) == kind }

// isCells asks for a reference or an array.
func (m *Machine) isCells(v api.Cell, tag int) bool {
	return m.is(v, api.ObCells) && m.heap.Tag(v.N) == tag
}

func (m *Machine) hasField(v api.Cell, kind, i int) bool {
	return m.is(v, kind) && i < m.heap.Len(v.N)
}
