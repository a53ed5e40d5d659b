package machine

import "mlcore/api"

// call is a function that has been entered and not left: its number, the thing that was
// called and the argument (the first call has the number 0 for both), the place of the next
// instruction, and where its slots, values and tries begin among those of the machine.
type call struct {
	number               int
	function, argument   api.Cell
	at                   int
	slots, values, tries int
}

// try is where an exception goes on, and with how many values of the call.
type try struct{ at, values int }

// innermost is the call whose instructions are done.
func (m *Machine) innermost() *call { return &m.calls[len(m.calls)-1] }

// enter begins a call of a function.
func (m *Machine) enter(c call) {
	c.at, c.slots, c.values, c.tries = 0, len(m.slots), len(m.values), len(m.tries)
	m.calls = append(m.calls, c)
}

// leave ends the innermost call, with all that is its own.
func (m *Machine) leave() {
	c := m.innermost()
	m.slots, m.values, m.tries = m.slots[:c.slots], m.values[:c.values], m.tries[:c.tries]
	m.calls = m.calls[:len(m.calls)-1]
}

// give ends the innermost call with its value.
func (m *Machine) give(v api.Cell) int {
	m.leave()
	if len(m.calls) == 0 {
		return api.Done
	}
	m.put(v)
	return api.Going
}

// has is how many values the innermost call has.
func (m *Machine) has() int { return len(m.values) - m.innermost().values }

// top is the value that so many others are above of.
func (m *Machine) top(above int) api.Cell { return m.values[len(m.values)-1-above] }

func (m *Machine) put(v api.Cell) { m.values = append(m.values, v) }

// drop takes so many values.
func (m *Machine) drop(n int) { m.values = m.values[:len(m.values)-n] }

// slot is what a slot of the innermost call holds.
func (m *Machine) slot(i int) api.Cell {
	// Slots behind the last one that was written to are not there yet: a call costs what
	// it uses.
	if i += m.innermost().slots; i < len(m.slots) {
		return m.slots[i]
	}
	return api.Cell{}
}

// store puts a value into a slot of the innermost call.
func (m *Machine) store(i int, v api.Cell) {
	i += m.innermost().slots
	for len(m.slots) <= i {
		m.slots = append(m.slots, api.Cell{})
	}
	m.slots[i] = v
}

// closeUp gives the slots of a function new numbers, one behind the other as they are come
// upon: of many slots the few that instructions speak of take room.
func closeUp(list []api.Ins) {
	numbers := map[int]int{}
	for i, in := range list {
		switch in.Op {
		case api.InSlot, api.InStore, api.InPatch:
			n, ok := numbers[in.A]
			if !ok {
				n = len(numbers)
				numbers[in.A] = n
			}
			list[i].A = n
		}
	}
}

// roots ranges over all cells that the machine holds.
func (m *Machine) roots(yield func(*api.Cell) bool) {
	for i := range m.calls {
		if c := &m.calls[i]; !yield(&c.function) || !yield(&c.argument) {
			return
		}
	}
	for _, list := range [...][]api.Cell{m.slots, m.values} {
		for i := range list {
			if !yield(&list[i]) {
				return
			}
		}
	}
}
