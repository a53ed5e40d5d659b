package machine

import (
	"math/rand"
	"testing"

	"mlcore/api"
)

// needs holds a code to the least heap on which its last instruction but InReturn is done: on a lesser one it is over
// there, or ahead of it.
func needs(t *testing.T, cells int, c api.Code, want api.Outcome) {
	t.Helper()
	plays(t, c, cells, 999, want)
	plays(t, c, cells+1, 999, want)
	plays(t, c, api.MaxHeap, 999, want)
	if cells > 0 {
		o, f := Play(written(t, c), cells-1, 999)
		if o.Kind != api.Memory || o.Name != "" || o.Steps >= want.Steps || f != (api.Fault{}) {
			t.Errorf("%s in %d cells: %v", short(c), cells-1, o)
		}
	}
}

// makes is needs of a list that comes to a value, with no other function.
func makes(t *testing.T, cells int, list ...api.Ins) {
	t.Helper()
	needs(t, cells, codeOf(fun(0, append(list, ret)...)), api.Outcome{Kind: api.Done, Steps: len(list) + 1})
}

func raises(t *testing.T, cells int, name string, list ...api.Ins) {
	t.Helper()
	needs(t, cells, codeOf(fun(0, append(list, ret)...)), api.Outcome{Kind: api.Raised, Name: name, Steps: len(list)})
}

// A thing takes 1 cell and 1 for each field, and what an instruction takes is there until it is done.
func TestP13_3Room(t *testing.T) {
	makes(t, 0, num(1))
	makes(t, 0, in(api.InStd, 1))
	makes(t, 1, in(api.InStr, 0))
	makes(t, 2, in(api.InStr, 1))
	makes(t, 2, in(api.InStr, 3))
	makes(t, 3, in(api.InStr, 4))
	makes(t, 26, in(api.InStr, 5))
	makes(t, 1, base("not"))
	makes(t, 2, in(api.InExn, 0, 0))
	makes(t, 2, in(api.InExn, 0, 1))
	makes(t, 2, num(1), in(api.InBlock, 0, 1))
	makes(t, 6, num(1), num(1), num(1), num(1), num(1), in(api.InBlock, 0, 5))
	makes(t, 4, in(api.InStr, 1), in(api.InBlock, 0, 1))
	makes(t, 2, in(api.InStr, 1), in(api.InDrop), in(api.InStr, 1))
	makes(t, 4, in(api.InStr, 1), in(api.InStr, 1), in(api.InDrop))
	makes(t, 3, in(api.InStr, 0), in(api.InStr, 0), sign("^"))
	makes(t, 6, in(api.InStr, 1), in(api.InStr, 2), sign("^"))
	makes(t, 53, in(api.InStr, 5), in(api.InStr, 0), sign("^"), in(api.InStr, 5), sign("="))
	// A function of the beginning is there, too, while it is called.
	makes(t, 1, base("not"), num(1), in(api.InCall))
	makes(t, 3, base("str"), num(1), in(api.InCall))
	makes(t, 4, base("str"), num(-api.MaxInt), in(api.InCall))
	makes(t, 3, base("chr"), num(1), in(api.InCall))
	makes(t, 3, base("ref"), num(1), in(api.InCall))
	makes(t, 27, base("size"), in(api.InStr, 5), in(api.InCall))
	makes(t, 1+3+1, base("array"), num(0), num(1), in(api.InBlock, 0, 2), in(api.InCall))
	makes(t, 1+3+101, base("array"), num(100), num(1), in(api.InBlock, 0, 2), in(api.InCall))
	makes(t, 1+26+4+1, base("part"), in(api.InStr, 5), num(0), num(0), in(api.InBlock, 0, 3), in(api.InCall))
	makes(t, 1+26+4+26, base("part"), in(api.InStr, 5), num(0), num(200), in(api.InBlock, 0, 3), in(api.InCall))
	// What is held by a slot stays, until something else is in it.
	makes(t, 26+2, in(api.InStr, 5), in(api.InStore, 2), in(api.InStr, 1))
	makes(t, 26, in(api.InStr, 5), in(api.InStore, 2), num(0), in(api.InStore, 2), in(api.InStr, 1))
}

// What is raised is looked for ahead of room: it needs room for its own block alone.
func TestP13_3RoomToRaise(t *testing.T) {
	raises(t, 2, "Div", num(1), num(0), sign("/"))
	raises(t, 2, "Overflow", num(api.MaxInt), num(1), sign("+"))
	raises(t, 52+2, "Size", in(api.InStr, 5), in(api.InStr, 5), sign("^"))
	raises(t, 28+2, "Size", in(api.InStr, 5), in(api.InStr, 1), sign("^"))
	raises(t, 4+2, "Size", base("array"), num(101), num(1), in(api.InBlock, 0, 2), in(api.InCall))
	raises(t, 4+2, "Size", base("array"), num(-1), num(1), in(api.InBlock, 0, 2), in(api.InCall))
	raises(t, 1+2, "Bounds", base("chr"), num(256), in(api.InCall))
	raises(t, 1+3+2+2, "Bounds", base("sub"), in(api.InStr, 1), num(1), in(api.InBlock, 0, 2), in(api.InCall))
	// What is Wrong is so ahead of that.
	for _, list := range [][]api.Ins{
		{num(1), base("not"), sign("/")}, {in(api.InStr, 0), num(0), sign("^")}, {base("array"), num(999), in(api.InCall)}, {base("str"), in(api.InStr, 0), in(api.InCall)},
		{num(5), num(5), in(api.InCall)}, {base("ref"), num(1), in(api.InField, 0)}, {num(1), in(api.InRaise)},
	} {
		n := len(list)
		if list[n-1].Op != api.InRaise {
			list = append(list, in(api.InRaise))
		}
		plays(t, codeOf(fun(0, list...)), 2, 99, api.Outcome{Kind: api.Wrong, Steps: n - 1})
	}
}

// While something is raised all calls are there still; when it is handled, those that were left are not.
func TestP13_3RoomOfCalls(t *testing.T) {
	// Each call has a text of 26 cells: the first in a value, the second as its argument, the third in what it has caught, the last in a slot.
	c := codeOf(
		fun(0, in(api.InStr, 5), in(api.InTry, 8), in(api.InStr, 5), in(api.InMake, 2), in(api.InMake, 1), in(api.InStr, 5), in(api.InCall), in(api.InRaise), in(api.InStr, 5), in(api.InBlock, 0, 3), ret),
		fun(1, in(api.InFree, 0), num(0), in(api.InCall), ret),
		fun(1, in(api.InStr, 5), in(api.InStore, 0), num(1), num(0), sign("%"), ret))
	held := 26 + (26 + 2 + 2) + 26 + 26
	needs(t, held+2, c, api.Outcome{Kind: api.Done, Steps: 7 + 3 + 5 + 3})
	m := load(t, c, held+2)
	m.Go(7 + 3 + 4)
	if n := m.Live(); n != held {
		t.Errorf("%d cells, want %d", n, held)
	}
	m.Go(1)
	if n := m.Live(); n != 26+2 {
		t.Errorf("%d cells, want %d", n, 26+2)
	}
	// One whose place is taken is gone with what it held.
	c = codeOf(
		fun(0, in(api.InMake, 1), in(api.InStr, 5), in(api.InCall), ret),
		fun(0, in(api.InStr, 5), in(api.InStore, 0), in(api.InMake, 2), num(0), in(api.InTail)),
		fun(0, in(api.InStr, 5), in(api.InStr, 5), in(api.InDrop), ret))
	needs(t, 1+26+26+1, c, api.Outcome{Kind: api.Done, Steps: 3 + 5 + 4 + 1})
}

// What refers to itself is given up, too.
func TestP13_4Circles(t *testing.T) {
	loop := func(list ...api.Ins) api.Code {
		return codeOf(fun(0, append(list, num(0), in(api.InStore, 0), in(api.InJump, 0))...), fun(1, num(0), ret))
	}
	for cells, c := range map[int]api.Code{
		2: loop(num(0), in(api.InMake, 1), in(api.InStore, 0), in(api.InSlot, 0), in(api.InPatch, 0, 0)),
		3: loop(base("ref"), num(0), in(api.InCall), in(api.InStore, 0), in(api.InSlot, 0), in(api.InSlot, 0), sign(":="), in(api.InDrop)),
	} {
		plays(t, c, cells, 10000, api.Outcome{Kind: api.Going, Steps: 10000})
		if o, _ := Play(written(t, c), cells-1, 10000); o.Kind != api.Memory {
			t.Error(o)
		}
	}
}

// Many slots cost nothing where they are not used.
func TestP1ManySlots(t *testing.T) {
	many := func(last ...api.Ins) api.Code {
		return codeOf(fun(0, in(api.InMake, 1), in(api.InStore, 0), in(api.InSlot, 0), in(api.InSlot, 0), in(api.InCall), ret),
			api.CodeFun{Slots: 65535, Ins: append(ins(num(1), in(api.InStore, 65534), in(api.InSlot, 65533), in(api.InDrop), in(api.InArg), in(api.InArg)), last...)})
	}
	for _, r := range []struct {
		c    api.Code
		want api.Outcome
	}{
		{many(in(api.InTail)), api.Outcome{Kind: api.Going, Steps: api.MaxFuel}},
		{many(in(api.InCall), ret), api.Outcome{Kind: api.Memory, Steps: 5 + 7*(api.MaxCalls-2) + 6}},
	} {
		m := load(t, r.c, 1)
		m.Go(api.MaxFuel)
		if m.Tell() != r.want || len(m.slots) > 2*len(m.calls) {
			t.Errorf("%v, %d slots", m.Tell(), len(m.slots))
		}
	}
	// All slots of a function are there, each for itself.
	all := api.CodeFun{Slots: 65535}
	for i := range 5000 {
		all.Ins = append(all.Ins, num(i), in(api.InStore, 65534-13*i))
	}
	all.Ins = append(all.Ins, in(api.InSlot, 65534), in(api.InSlot, 65534-13), in(api.InSlot, 65534-13*4999), in(api.InSlot, 65534-13*2500), in(api.InSlot, 65533), in(api.InBlock, 0, 5), ret)
	m := load(t, codeOf(all), 6)
	m.Go(10006)
	if s := m.ending(); s != "block0(0 1 4999 2500 0)" {
		t.Error(s)
	}
}

// Whatever the bytes are, a call ends, and does no more than it may.
func TestP1MachineBytes(t *testing.T) {
	r := rand.New(rand.NewSource(1))
	ran := 0
	for seed := range 2000 {
		_, c := program(seed)
		bytes := []byte(written(t, c))
		for range 1 + r.Intn(4) {
			bytes[r.Intn(len(bytes))] = byte(r.Intn(256))
		}
		for range 10 {
			bytes[len(bytes)-1-r.Intn(len(bytes)/2)] ^= 1 << r.Intn(4)
			o, f := Play(string(bytes), r.Intn(100), 300)
			if f.Kind != api.OK && o != (api.Outcome{}) || o.Steps > 300 || o.Kind == api.Going && f.Kind == api.OK && o.Steps != 300 {
				t.Fatalf("%q: %v %v", bytes, o, f)
			}
			if f.Kind == api.OK {
				ran++
			}
		}
	}
	if ran < 300 {
		t.Error(ran)
	}
}
