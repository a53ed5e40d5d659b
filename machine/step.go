package machine

import (
	"mlcore/api"
	"mlcore/code"
)

// step does the next instruction. One that ends the machine as Memory or Wrong is not done.
func (m *Machine) step() {
	c := m.innermost()
	in := m.code.Funs[c.number].Ins[c.at]
	c.at++
	m.kind = m.do(in)
	if m.kind != api.Memory && m.kind != api.Wrong {
		m.steps++
	}
}

// do does an instruction, and says how the machine stands then.
func (m *Machine) do(in api.Ins) int {
	takes := code.Takes(m.code, in)
	// Within a try values may have been taken that were there ahead of it; these are
	// missing where it goes on.
	if m.has() < takes {
		return api.Wrong
	}
	switch in.Op {
	case api.InStore:
		m.store(in.A, m.top(0))
	case api.InDrop:
	case api.InPatch:
		f := m.slot(in.A)
		if !m.hasField(f, api.ObFun, in.B) {
			return api.Wrong
		}
		m.heap.Set(f.N, in.B, m.top(0))
	case api.InJump:
		m.innermost().at = in.A
	case api.InUnless:
		if m.top(0).Ptr {
			return api.Wrong
		}
		if m.top(0).N != 1 {
			m.innermost().at = in.A
		}
	case api.InTry:
		m.tries = append(m.tries, try{in.A, m.has()})
	case api.InEnd:
		m.tries = m.tries[:len(m.tries)-1]
	case api.InCall, api.InTail:
		return m.call(in.Op == api.InTail)
	case api.InReturn:
		return m.give(m.top(0))
	case api.InRaise:
		v := m.top(0)
		if !m.isRaisable(v) {
			return api.Wrong
		}
		m.drop(takes)
		return m.raise(v)
	default:
		v, f := m.value(in)
		if f != nothing {
			return m.fail(f, takes)
		}
		m.drop(takes)
		m.put(v)
		return api.Going
	}
	m.drop(takes)
	return api.Going
}

// value is the value of an instruction that puts one and goes on with the next.
func (m *Machine) value(in api.Ins) (api.Cell, failure) {
	switch in.Op {
	case api.InInt:
		return number(in.A), nothing
	case api.InStr:
		return m.text(m.code.Texts[in.A])
	case api.InBase:
		return m.thing(api.ObFun, firstBase+in.A, 0)
	case api.InArg:
		return m.innermost().argument, nothing
	case api.InFree:
		return m.heap.Get(m.innermost().function.N, in.A), nothing
	case api.InSlot:
		return m.slot(in.A), nothing
	case api.InBlock:
		return m.gathered(api.ObBlock, in.A, in.B)
	case api.InMake:
		return m.gathered(api.ObFun, in.A, m.code.Funs[in.A].Free)
	case api.InField:
		if !m.hasField(m.top(0), api.ObBlock, in.A) {
			return api.Cell{}, isWrong
		}
		return m.heap.Get(m.top(0).N, in.A), nothing
	case api.InIsInt:
		return truth(m.top(0) == number(in.A)), nothing
	case api.InIsBlock:
		return truth(m.is(m.top(0), api.ObBlock) && m.heap.Tag(m.top(0).N) == in.A), nothing
	case api.InSame:
		return truth(m.top(1) == m.top(0)), nothing
	case api.InSign:
		return m.sign(m.signs[in.A])
	case api.InExn:
		return m.exception(in.A, in.B)
	default: // InStd
		return number(-1 - in.A), nothing
	}
}

// call calls the function that is below the top, with the top.
func (m *Machine) call(tail bool) int {
	c := call{function: m.top(1), argument: m.top(0)}
	if !m.is(c.function, api.ObFun) {
		return api.Wrong
	}
	c.number = m.heap.Tag(c.function.N)
	switch {
	case c.number >= firstBase:
		return m.callBase(c, tail)
	case tail:
		m.leave()
	case len(m.calls) == api.MaxCalls:
		return api.Memory
	default:
		m.drop(2)
	}
	m.enter(c)
	return api.Going
}

// callBase calls a function that is there from the beginning: it takes no call of its own.
func (m *Machine) callBase(c call, tail bool) int {
	if m.heap.Len(c.function.N) > 0 {
		return api.Wrong
	}
	v, f := m.base(m.bases[c.number-firstBase], c.argument)
	if f != nothing {
		return m.fail(f, 2)
	}
	if tail {
		return m.give(v)
	}
	m.drop(2)
	m.put(v)
	return api.Going
}
