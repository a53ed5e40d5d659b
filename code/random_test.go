package code

import (
	"math/rand"
	"slices"
	"testing"

	"mlcore/api"
)

// maker makes random codes.
type maker struct {
	*rand.Rand
	code   api.Code
	number int // of the function that is being made
	list   []api.Ins
}

// made is a random code that can be run.
func made(seed int) (*maker, api.Code) {
	m := &maker{Rand: rand.New(rand.NewSource(int64(seed)))}
	m.code.Texts = slices.Repeat([]string{"a", "bc", ""}, 1+m.Intn(3))
	m.code.Funs = make([]api.CodeFun, 2+m.Intn(4))
	for i := range m.code.Funs {
		m.code.Funs[i] = api.CodeFun{Free: min(i, 1) * m.Intn(4), Slots: 1 + m.Intn(3)}
	}
	for i := range m.code.Funs {
		m.number, m.list = i, nil
		m.value(4)
		last := in(api.InReturn)
		switch m.Intn(4) {
		case 0:
			m.value(2)
			last = in(api.InTail)
		case 1:
			last = in(api.InRaise)
		}
		m.put(last)
		m.code.Funs[i].Ins = m.list
	}
	return m, m.code
}

func (m *maker) put(x api.Ins) { m.list = append(m.list, x) }

// hole leaves a place for a jump; its answer puts the place that is next then into it.
func (m *maker) hole(op int) (fill func()) {
	at := len(m.list)
	m.put(in(op))
	return func() { m.list[at].A = len(m.list) }
}

// value puts instructions behind which there is one value more.
func (m *maker) value(deep int) {
	if deep == 0 || m.Intn(6) == 0 {
		m.leaf()
		return
	}
	deep--
	if m.Intn(2) == 0 {
		m.branch(deep)
		return
	}
	list := m.straight()
	e := list[m.Intn(len(list))]
	for range e.takes {
		m.value(deep)
	}
	m.put(e.x)
	if e.puts == 0 {
		m.value(deep)
	}
}

// straight has instructions that take values and go on with the next one.
func (m *maker) straight() []effect {
	slot := m.Intn(m.code.Funs[m.number].Slots)
	to := 1 + m.Intn(len(m.code.Funs)-1)
	n := 1 + m.Intn(3)
	return []effect{
		{in(api.InBlock, m.Intn(3), n), n, 1}, {in(api.InField, m.Intn(3)), 1, 1}, {in(api.InIsInt, m.Intn(9)-4), 1, 1}, {in(api.InIsBlock, m.Intn(3)), 1, 1}, {in(api.InSame), 2, 1},
		{in(api.InSign, m.Intn(12)), 2, 1}, {in(api.InSign, 12+2*m.Intn(2)), 1, 1}, {in(api.InMake, to), m.code.Funs[to].Free, 1}, {in(api.InCall), 2, 1},
		{in(api.InStore, slot), 1, 0}, {in(api.InPatch, slot, m.Intn(3)), 1, 0}, {in(api.InDrop), 1, 0},
	}
}

func (m *maker) leaf() {
	f := m.code.Funs[m.number]
	list := []api.Ins{
		in(api.InInt, m.Intn(2*api.MaxInt)-api.MaxInt), in(api.InStr, m.Intn(len(m.code.Texts))), in(api.InBase, m.Intn(12)), in(api.InSlot, m.Intn(f.Slots)),
		in(api.InExn, m.Intn(len(m.code.Texts)), m.Intn(2)), in(api.InStd, m.Intn(6)),
	}
	if m.number > 0 {
		list = append(list, in(api.InArg))
	}
	if f.Free > 0 {
		list = append(list, in(api.InFree, m.Intn(f.Free)))
	}
	m.put(list[m.Intn(len(list))])
}

// branch puts what does not go on with the next instruction alone.
func (m *maker) branch(deep int) {
	start := len(m.list)
	m.value(deep)
	switch m.Intn(4) {
	case 0: // one of two
		other := m.hole(api.InUnless)
		m.value(deep)
		end := m.hole(api.InJump)
		other()
		m.value(deep)
		end()
	case 1: // raised, or not
		other := m.hole(api.InUnless)
		m.value(deep)
		m.put(in(api.InRaise))
		other()
		m.value(deep)
	case 2: // once more
		m.put(in(api.InUnless, start))
		m.value(deep)
	case 3: // tried
		m.put(in(api.InDrop))
		raised := m.hole(api.InTry)
		m.value(deep)
		m.put(in(api.InEnd))
		end := m.hole(api.InJump)
		raised()
		m.put(in(api.InField, 0))
		end()
	}
	m.put(in(api.InSign, 14)) // so that nothing jumps behind the last one
}

// spoil changes something of a code.
func (m *maker) spoil(c *api.Code) {
	f := &c.Funs[m.Intn(len(c.Funs))]
	i := m.Intn(len(f.Ins) + 1)
	if i == len(f.Ins) {
		switch m.Intn(3) {
		case 0:
			f.Free = m.Intn(4)
		case 1:
			f.Slots = m.Intn(3)
		case 2:
			c.Texts = c.Texts[:m.Intn(len(c.Texts)+1)]
		}
		return
	}
	x := in(m.Intn(api.Inss))
	twos, hasNumber := operandsOf(x.Op)
	if twos > 0 || hasNumber {
		x.A = m.Intn(2 + m.Intn(len(f.Ins)+1))
	}
	if twos > 1 {
		x.B = m.Intn(3)
	}
	switch m.Intn(6) {
	case 0:
		f.Ins[i] = x
	case 1:
		f.Ins = slices.Insert(f.Ins, i, x)
	case 2:
		f.Ins = slices.Delete(f.Ins, i, i+1)
	case 3:
		k := m.Intn(len(f.Ins))
		f.Ins[i], f.Ins[k] = f.Ins[k], f.Ins[i]
	case 4:
		f.Ins = f.Ins[:i]
	case 5:
		if n, _ := operandsOf(f.Ins[i].Op); n > 0 {
			f.Ins[i].A = m.Intn(len(f.Ins) + 2)
		}
	}
}

// Check says of random codes what the second way says, and those that it lets pass never lack a value.
func TestP12_3Random(t *testing.T) {
	told := map[api.Errno]int{}
	for seed := range 3000 {
		m, c := made(seed)
		checked(t, c, api.OK, 0)
		m.walks(t, c)
		for range 10 {
			d := copyOf(c)
			for range 1 + m.Intn(3) {
				m.spoil(&d)
			}
			want := slowCheck(d)
			checked(t, d, want.Kind, want.At)
			if want.Kind == api.OK {
				m.walks(t, d)
			}
			told[want.Kind]++
		}
	}
	for _, kind := range []api.Errno{api.OK, api.ErrNumber, api.ErrJump, api.ErrFlow} {
		if told[kind] < 500 {
			t.Errorf("fault %d: %d times", kind, told[kind])
		}
	}
}

// walks goes through the functions of a code, now this way and now that, as a machine would.
func (m *maker) walks(t *testing.T, c api.Code) {
	t.Helper()
	for number := range c.Funs {
		if s := m.walk(c, c.Funs[number].Ins); s != "" {
			t.Fatalf("function %d %s: %s", number, s, short(c))
		}
	}
}

// walk says what went wrong. A try is kept as what is known at its place.
func (m *maker) walk(c api.Code, list []api.Ins) string {
	at, values := 0, 0
	var tries []fact
	for range 200 {
		if at >= len(list) {
			return "goes on behind its last instruction"
		}
		if n := len(tries); n > 0 && m.Intn(10) == 0 && values >= tries[n-1].values-1 {
			at, values, tries = tries[n-1].place, tries[n-1].values, tries[:n-1]
			continue
		}
		x := list[at]
		takes, puts := slowEffect(c, x)
		if values < takes {
			return "lacks a value"
		}
		values += puts - takes
		at++
		switch {
		case x.Op == api.InReturn || x.Op == api.InTail:
			if values > 0 || len(tries) > 0 {
				return "leaves something"
			}
			return ""
		case x.Op == api.InRaise:
			return ""
		case x.Op == api.InJump, x.Op == api.InUnless && m.Intn(2) == 0:
			at = x.A
		case x.Op == api.InTry:
			tries = append(tries, fact{place: x.A, values: values + 1})
		case x.Op == api.InEnd && len(tries) == 0:
			return "ends no try"
		case x.Op == api.InEnd:
			tries = tries[:len(tries)-1]
		}
	}
	return ""
}

// Random codes are read as they were written; bytes that are read are written as they were; and all bytes are read as the second way does.
func TestP12_2Random(t *testing.T) {
	told := map[api.Errno]int{}
	for seed := range 1500 {
		m, c := made(seed)
		for range m.Intn(4) {
			m.spoil(&c)
		}
		s := written(t, c)
		if d := read(t, s); !sameCode(d, c) {
			t.Fatalf("%s, then %s", short(c), short(d))
		}
		for range 20 {
			bytes := m.spoilt(s)
			want, fault := slowDecode(bytes)
			got, f := Decode(bytes)
			if f != fault || !sameCode(got, want) {
				t.Fatalf("%q: %v, want %v", bytes, f, fault)
			}
			if f.Kind == api.OK && written(t, got) != bytes {
				t.Fatalf("%q is written as %q", bytes, written(t, got))
			}
			told[f.Kind]++
		}
	}
	for _, kind := range []api.Errno{api.OK, api.ErrHead, api.ErrEnd, api.ErrNumber, api.ErrOp} {
		if told[kind] < 300 {
			t.Errorf("fault %d: %d times", kind, told[kind])
		}
	}
}

// spoilt is bytes of which some were changed.
func (m *maker) spoilt(s string) string {
	b := []byte(s)
	for range 1 + m.Intn(2) {
		i := m.Intn(len(b))
		if m.Intn(8) == 0 {
			i = m.Intn(min(8, len(b)))
		}
		switch m.Intn(5) {
		case 0, 1:
			b[i] = byte(m.Intn(256))
		case 2:
			b[i] = byte(m.Intn(30))
		case 3:
			b = append(b[:i], b[i+m.Intn(2):]...)
		case 4:
			b = slices.Insert(b, i, byte(m.Intn(256)))
		}
		if len(b) == 0 {
			break
		}
	}
	return string(b)
}

// What is answered hangs on the arguments alone.
func TestP1CodeAgain(t *testing.T) {
	var first []api.Fault
	for round := range 3 {
		for i := range 300 {
			m, c := made(i)
			m.spoil(&c)
			f := Check(c)
			s, _ := Encode(c)
			_, g := Decode(m.spoilt(s))
			if round == 0 {
				first = append(first, f, g)
			} else if first[2*i] != f || first[2*i+1] != g {
				t.Fatalf("%s: %v %v, then %v %v", short(c), first[2*i], first[2*i+1], f, g)
			}
		}
	}
}
