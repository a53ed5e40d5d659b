package machine

import (
	"math/rand"
	"slices"

	"mlcore/api"
	"mlcore/code"
)

// The kinds of values of random programs; a function's kind is functions and its number.
const (
	aNumber = iota
	aText
	aReference // of a number
	anArray    // of numbers
	aPair      // a number, a text
	aList      // 0, or a block with tag 1: a number, a list
	anException
	aRaised // a block with an exception and a number
	kinds
	functions = 100
)

const ownSlots = 4

// signature is what a random function takes, gives and catches, and what its slots hold.
type signature struct {
	argument, result int
	free, slots      []int
}

// maker makes random codes that go on for a while: instructions mostly have the values that they ask for.
type maker struct {
	*rand.Rand
	code       api.Code
	signatures []signature
	number     int // of the function that is being made
	list       []api.Ins
}

func program(seed int) (*maker, api.Code) {
	m := &maker{Rand: rand.New(rand.NewSource(int64(seed)))}
	m.code.Texts = texts()
	n := 2 + m.Intn(4)
	for i := range n {
		m.signatures = append(m.signatures, m.signature(i, n))
	}
	for i, s := range m.signatures {
		m.code.Funs = append(m.code.Funs, api.CodeFun{Free: len(s.free), Slots: len(s.slots)})
		m.number, m.list = i, nil
		m.body()
		m.code.Funs[i].Ins = m.list
	}
	return m, m.code
}

// signature of function i of n: it may catch those ahead of it, and itself.
func (m *maker) signature(i, n int) signature {
	s := signature{argument: m.Intn(kinds), result: m.Intn(kinds)}
	if m.Intn(2) == 0 {
		s.argument, s.result = aNumber, aNumber
	}
	if i > 0 {
		for range m.Intn(3) {
			s.free = append(s.free, m.Intn(kinds))
		}
		if m.Intn(2) == 0 {
			s.free = append(s.free, functions+1+m.Intn(i))
		}
	}
	for range ownSlots {
		s.slots = append(s.slots, m.Intn(kinds))
	}
	for f := range n {
		s.slots = append(s.slots, functions+f)
	}
	return s
}

func (m *maker) own() signature { return m.signatures[m.number] }

func (m *maker) put(list ...api.Ins) { m.list = append(m.list, list...) }

func (m *maker) hole(op int) (fill func()) {
	at := len(m.list)
	m.put(in(op))
	return func() { m.list[at].A = len(m.list) }
}

// body fills the slots, mostly, and comes to the result.
func (m *maker) body() {
	for i := range ownSlots {
		if m.Intn(4) > 0 {
			m.value(m.own().slots[i], 1)
			m.put(in(api.InStore, i))
		}
	}
	f := m.giver(m.own().result)
	switch {
	case m.Intn(12) == 0:
		m.value(aRaised, 3)
		m.put(in(api.InRaise))
	case f > 0 && m.Intn(3) == 0:
		m.value(functions+f, 2)
		m.value(m.signatures[f].argument, 2)
		m.put(in(api.InTail))
	case m.own().result == aText && m.Intn(2) == 0:
		m.put(base("str"))
		m.value(aNumber, 3)
		m.put(in(api.InTail))
	default:
		m.value(m.own().result, 4)
		m.put(ret)
	}
}

// giver is a function that gives a kind, or 0.
func (m *maker) giver(kind int) int {
	for _, f := range m.Perm(len(m.signatures)) {
		if f > 0 && m.signatures[f].result == kind {
			return f
		}
	}
	return 0
}

// value puts instructions that come to a value of a kind.
func (m *maker) value(kind, deep int) {
	if m.Intn(3) == 0 && m.known(kind) {
		return
	}
	if deep > 0 {
		deep--
		switch f := m.giver(kind); {
		case f > 0 && m.Intn(4) == 0:
			m.value(functions+f, deep)
			m.value(m.signatures[f].argument, deep)
			m.put(in(api.InCall))
			return
		case m.Intn(6) == 0:
			m.branch(kind, deep)
			return
		case m.Intn(6) == 0:
			m.attempt(kind, deep)
			return
		case m.Intn(8) == 0:
			m.beside(deep)
			m.put(in(api.InDrop))
		}
	}
	m.built(kind, deep)
}

// often is mostly one of the first.
func (m *maker) often(first, others []int) int {
	if m.Intn(12) == 0 {
		first = others
	}
	return first[m.Intn(len(first))]
}

// known puts something of a kind that is there already, if it is.
func (m *maker) known(kind int) bool {
	var list []api.Ins
	for i, k := range m.own().slots {
		if k == kind {
			list = append(list, in(api.InSlot, i))
		}
	}
	for i, k := range m.own().free {
		if k == kind {
			list = append(list, in(api.InFree, i))
		}
	}
	if m.number > 0 && m.own().argument == kind {
		list = append(list, in(api.InArg))
	}
	if len(list) == 0 || kind >= functions && m.Intn(3) == 0 {
		return false
	}
	x := list[m.Intn(len(list))]
	if kind >= functions && x.Op == api.InSlot && m.Intn(4) > 0 {
		return false // it may not have been made
	}
	m.put(x)
	return true
}

// beside puts what gives a 0 and does something.
func (m *maker) beside(deep int) {
	switch m.Intn(5) {
	case 0:
		m.put(base("print"))
		m.value(aText, deep)
		m.put(in(api.InCall))
	case 1:
		m.value(aReference, deep)
		m.value(aNumber, deep)
		m.put(sign(":="))
	case 2:
		m.put(base("put"))
		m.value(anArray, deep)
		m.put(num(m.Intn(3)))
		m.value(aNumber, deep)
		m.put(in(api.InBlock, 0, 3), in(api.InCall))
	default:
		slot := m.Intn(ownSlots)
		m.value(m.own().slots[slot], deep)
		m.put(in(api.InStore, slot), num(0))
	}
}

func (m *maker) branch(kind, deep int) {
	m.value(aNumber, deep)
	if m.Intn(2) == 0 {
		m.put(num(m.Intn(5)), sign([]string{"<", "<=", "=", "<>", ">"}[m.Intn(5)]))
	}
	other := m.hole(api.InUnless)
	m.value(kind, deep)
	end := m.hole(api.InJump)
	other()
	m.value(kind, deep)
	end()
	m.put(in(api.InStore, 0), in(api.InSlot, 0)) // so that nothing jumps behind the last one
}

func (m *maker) attempt(kind, deep int) {
	raised := m.hole(api.InTry)
	m.value(kind, deep)
	m.put(in(api.InEnd))
	end := m.hole(api.InJump)
	raised()
	if kind != aRaised {
		m.put(in(api.InDrop))
		m.value(kind, deep)
	}
	end()
	m.put(in(api.InStore, 0), in(api.InSlot, 0))
}

func (m *maker) built(kind, deep int) {
	switch kind {
	case aNumber:
		m.aNumber(deep)
	case aText:
		m.aText(deep)
	case aReference:
		m.put(base("ref"))
		m.value(aNumber, deep)
		m.put(in(api.InCall))
	case anArray:
		m.put(base("array"), num(m.often([]int{0, 1, 2, 3, 5}, []int{100, 101, -1})))
		m.value(aNumber, deep)
		m.put(in(api.InBlock, 0, 2), in(api.InCall))
	case aPair:
		m.value(aNumber, deep)
		m.value(aText, deep)
		m.put(in(api.InBlock, 0, 2))
	case aList:
		if deep <= 0 || m.Intn(4) == 0 {
			m.put(num(0))
			return
		}
		m.value(aNumber, deep-1)
		m.value(aList, deep)
		m.put(in(api.InBlock, 1, 2))
	case anException:
		m.put([]api.Ins{in(api.InStd, m.Intn(6)), in(api.InExn, m.Intn(len(m.code.Texts)), m.Intn(2))}[m.Intn(2)])
	case aRaised:
		m.value(anException, deep)
		m.value(aNumber, deep)
		m.put(in(api.InBlock, 0, 2))
	default:
		m.aFunction(kind-functions, deep)
	}
}

// aFunction makes a function; if it catches itself, it is patched.
func (m *maker) aFunction(f, deep int) {
	if f == 0 {
		m.put(base("not"))
		return
	}
	slot, itself := ownSlots+f, -1
	for i, k := range m.signatures[f].free {
		if k == functions+f {
			m.put(num(0))
			itself = i
		} else {
			m.value(k, deep-1)
		}
	}
	m.put(in(api.InMake, f))
	if itself >= 0 {
		m.put(in(api.InStore, slot), in(api.InSlot, slot), in(api.InPatch, slot, itself), in(api.InSlot, slot))
	}
}

func (m *maker) aNumber(deep int) {
	if deep <= 0 {
		m.put(num([]int{0, 1, 2, 3, 7, -1, -7, 65, api.MaxInt, -api.MaxInt}[m.Intn(10)]))
		return
	}
	of := func(kind int, list ...api.Ins) { m.value(kind, deep-1); m.put(list...) }
	switch m.Intn(14) {
	case 0, 1, 2:
		of(aNumber)
		of(aNumber, sign([]string{"+", "-", "*", "/", "%", "<", "<=", ">", ">="}[m.Intn(9)]))
	case 3:
		of(aNumber, sign("~"))
	case 4:
		k := m.Intn(kinds)
		of(k)
		of(k, sign([]string{"=", "<>"}[m.Intn(2)]))
	case 5:
		k := m.Intn(kinds)
		of(k)
		of(k, in(api.InSame))
	case 6:
		of(m.Intn(kinds), in(api.InIsInt, m.Intn(3)-1))
	case 7:
		of(m.Intn(kinds), in(api.InIsBlock, m.Intn(2)))
	case 8:
		of(aReference, sign("!"))
	case 9:
		of(aPair, in(api.InField, 0))
	case 10:
		m.put(base("size"))
		of(aText, in(api.InCall))
	case 11:
		m.put(base("length"))
		of(anArray, in(api.InCall))
	case 12:
		m.put(base("sub"))
		of(aText, num(m.Intn(3)), in(api.InBlock, 0, 2), in(api.InCall))
	case 13:
		m.put(base("at"))
		of(anArray, num(m.Intn(3)), in(api.InBlock, 0, 2), in(api.InCall))
	}
}

func (m *maker) aText(deep int) {
	if deep <= 0 {
		m.put(in(api.InStr, m.often([]int{0, 1, 2, 3}, []int{4, 5, 6, 7})))
		return
	}
	of := func(kind int, list ...api.Ins) { m.value(kind, deep-1); m.put(list...) }
	switch m.Intn(6) {
	case 0, 1:
		of(aText)
		of(aText, sign("^"))
	case 2:
		m.put(base("str"))
		of(aNumber, in(api.InCall))
	case 3:
		m.put(base("chr"))
		of(aNumber, in(api.InCall))
	case 4:
		m.put(base("part"))
		of(aText, num(m.Intn(2)), num(m.Intn(3)), in(api.InBlock, 0, 3), in(api.InCall))
	case 5:
		of(aPair, in(api.InField, 1))
	}
}

// spoilt is a code of which some instructions were changed, and which can be run.
func (m *maker) spoilt(c api.Code) (api.Code, bool) {
	d := api.Code{Texts: c.Texts, Funs: slices.Clone(c.Funs)}
	for i := range d.Funs {
		d.Funs[i].Ins = slices.Clone(d.Funs[i].Ins)
	}
	for range 1 + m.Intn(3) {
		f := &d.Funs[m.Intn(len(d.Funs))]
		i, k := m.Intn(len(f.Ins)), m.Intn(len(f.Ins))
		switch m.Intn(4) {
		case 0:
			f.Ins[i] = f.Ins[k]
		case 1:
			f.Ins[i], f.Ins[k] = f.Ins[k], f.Ins[i]
		case 2:
			f.Ins[i] = []api.Ins{num(m.Intn(9) - 6), in(api.InSlot, m.Intn(f.Slots)), in(api.InStr, m.Intn(3)), in(api.InBase, m.Intn(12)), in(api.InField, m.Intn(3)), in(api.InSign, m.Intn(15)), in(api.InCall), in(api.InStore, m.Intn(f.Slots)), in(api.InPatch, m.Intn(f.Slots), m.Intn(2)), in(api.InStd, m.Intn(6))}[m.Intn(10)]
		case 3:
			f.Ins[i].A = f.Ins[k].A
		}
	}
	_, e := code.Encode(d)
	return d, e == api.OK && code.Check(d) == (api.Fault{})
}
