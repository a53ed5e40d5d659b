package heap

import "mlcore/api"

// fits tells whether so many cells are left. It looks for what is not reached only when
// the answer hangs on that.
func (h *Heap) fits(n int, roots func(func(*api.Cell) bool)) bool {
	if h == nil || n > h.cells {
		return false
	}
	return n <= h.cells-len(h.words) || n <= h.cells-h.Collect(roots)
}

// move is a heap whose things are being moved to another one.
type move struct{ from, to Heap }

// roots moves what the roots refer to. Should their function panic, what it told of
// until then holds, so that the heap stays whole.
func (m *move) roots(roots func(func(*api.Cell) bool)) {
	defer func() { _ = recover() }()
	if roots == nil {
		return
	}
	for c := range roots {
		if c != nil && c.Ptr {
			c.N = m.thing(c.N)
		}
	}
}

// fields moves what the things that were moved refer to; these come behind them, and
// have their turn, too.
func (m *move) fields() {
	for i := 0; i < len(m.to.words); i++ {
		w := m.to.words[i]
		if w.part == address {
			w.n = m.thing(w.n)
			m.to.words[i] = w
		}
	}
}

// thing moves a thing, once, and tells its new address. An address at which no thing
// lies stays as it is: a root that is told of twice has its new one the second time.
func (m *move) thing(a int) int {
	old := m.from.thing(a)
	if old == nil {
		return a
	}
	if old[0].moved == 0 {
		at := len(m.to.words)
		copy(m.to.take(len(old)), old)
		old[0].moved = int32(at) + 1
	}
	return m.to.first + int(old[0].moved) - 1
}
