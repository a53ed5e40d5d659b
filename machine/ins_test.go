package machine

import (
	"testing"

	"mlcore/api"
)

// Some values, and how they are shown: one of each kind.
type sample struct {
	list []api.Ins
	is   string
}

// calls is a function of the beginning, called with a value.
func calls(name string, argument ...api.Ins) []api.Ins {
	return join(ins(base(name)), argument, ins(in(api.InCall)))
}

func tuple(parts ...[]api.Ins) []api.Ins {
	return append(join(parts...), in(api.InBlock, 0, len(parts)))
}

// samples are made with function 1 that catches nothing, and 2 that catches one.
func samples() []sample {
	return []sample{
		{ins(num(0)), "0"}, {ins(num(1)), "1"}, {ins(num(-7)), "-7"}, {ins(in(api.InStd, 0)), "-1"}, {ins(in(api.InStd, 5)), "-6"},
		{ins(in(api.InStr, 0)), `""`}, {ins(in(api.InStr, 2)), `"bc"`},
		{ins(num(5), in(api.InBlock, 0, 1)), "block0(5)"}, {ins(num(5), num(6), in(api.InBlock, 3, 2)), "block3(5 6)"}, {ins(in(api.InStr, 1), num(6), num(1), in(api.InBlock, 0, 3)), `block0("a" 6 1)`},
		{ins(in(api.InMake, 1)), "fun1()"}, {ins(num(4), in(api.InMake, 2)), "fun2(4)"}, {ins(base("not")), "fun60000()"}, {ins(base("put")), "fun60011()"},
		{calls("ref", num(8)), "cells0(8)"}, {calls("array", tuple(ins(num(1)), ins(num(8)))...), "cells1(8)"}, {calls("array", tuple(ins(num(0)), ins(num(8)))...), "cells1()"},
		{ins(in(api.InExn, 6, 0)), "exn0(6)"}, {ins(in(api.InExn, 0, 1)), "exn1(0)"},
	}
}

// beside is the functions 1 and 2 of samples.
func beside() []api.CodeFun {
	return []api.CodeFun{fun(0, in(api.InArg), ret), fun(1, in(api.InFree, 0), in(api.InArg), in(api.InBlock, 9, 2), ret)}
}

func comesTo(t *testing.T, want string, lists ...[]api.Ins) {
	t.Helper()
	comesBeside(t, beside(), want, join(lists...)...)
}

func TestP13_3Values(t *testing.T) {
	for _, v := range samples() {
		comesTo(t, v.is, v.list)
		comesTo(t, v.is, v.list, ins(in(api.InStore, 1), in(api.InSlot, 1)))
		comesTo(t, v.is, ins(num(3)), v.list, ins(in(api.InStore, 2), in(api.InDrop), in(api.InSlot, 2)))
		comesTo(t, "0", v.list, ins(in(api.InStore, 2), in(api.InSlot, 1)))
		comesTo(t, "3", ins(num(3)), v.list, ins(in(api.InDrop)))
		comesTo(t, v.is, ins(in(api.InMake, 1)), v.list, ins(in(api.InCall)))
		comesTo(t, "block9("+v.is+" 7)", v.list, ins(in(api.InMake, 2), num(7), in(api.InCall)))
		comesTo(t, "cells0("+v.is+")", calls("ref", v.list...))
		comesTo(t, v.is, calls("ref", v.list...), ins(sign("!")))
		comesTo(t, "block65535(1 "+v.is+" 2)", ins(num(1)), v.list, ins(num(2), in(api.InBlock, 65535, 3)))
	}
	for i, name := range []string{"Match", "Bind", "Overflow", "Div", "Bounds", "Size"} {
		comesTo(t, []string{"-1", "-2", "-3", "-4", "-5", "-6"}[i], ins(in(api.InStd, i)))
		comesTo(t, name, ins(in(api.InStd, i), in(api.InBlock, 1, 1), in(api.InRaise)))
	}
	comesTo(t, "1000000000", ins(num(api.MaxInt)))
	comesTo(t, "-1000000000", ins(num(-api.MaxInt)))
}

// A text has its first byte highest, and nothing where it has no byte any more.
func TestP13_3Texts(t *testing.T) {
	for i, want := range [][]uint64{
		{}, {0x61 << 56}, {0x6263 << 48}, {0x3132333435363738}, {0x3132333435363738, 0x39 << 56}, nil, {0x45 << 56}, {0xff00807a7a7a7a7a, 0xfe << 56},
	} {
		m := load(t, codeOf(fun(0, in(api.InStr, i), ret)), 30)
		m.Go(1)
		a, text := m.top(0).N, texts()[i]
		fields := (len(text) + 7) / 8
		if m.heap.Kind(a) != api.ObText || m.heap.Tag(a) != len(text) || m.heap.Len(a) != fields || m.Live() != 1+fields {
			t.Errorf("%q: kind %d, tag %d, %d fields", text, m.heap.Kind(a), m.heap.Tag(a), m.heap.Len(a))
		}
		a = m.top(0).N
		for k, n := range want {
			if c := m.heap.Get(a, k); c != (api.Cell{N: int(n)}) {
				t.Errorf("%q: field %d is %x, want %x", text, k, uint64(c.N), n)
			}
		}
		if s := m.bytesOf(m.top(0)); s != text {
			t.Errorf("%q, want %q", s, text)
		}
	}
}

// What makes a thing makes a new one each time.
func TestP13_3New(t *testing.T) {
	for _, v := range samples() {
		same := "0"
		if v.is[len(v.is)-1] != ')' && v.is[0] != '"' {
			same = "1"
		}
		comesTo(t, same, v.list, v.list, ins(in(api.InSame)))
		comesTo(t, "1", v.list, ins(in(api.InStore, 0), in(api.InSlot, 0), in(api.InSlot, 0), in(api.InSame)))
	}
}

func TestP13_3Questions(t *testing.T) {
	for i, v := range samples() {
		for k, w := range samples() {
			if i != k {
				comesTo(t, "0", v.list, w.list, ins(in(api.InSame)))
			}
		}
		for n, is := range map[int]string{0: "0", 1: "1", -7: "-7", -1: "-1", -6: "-6", 60000: "", 2: ""} {
			want := "0"
			if v.is == is {
				want = "1"
			}
			comesTo(t, want, v.list, ins(in(api.InIsInt, n)))
		}
		for tag, is := range map[int]string{0: "block0(5)", 3: "block3(5 6)", 1: "", 2: "", 60000: "", 65535: ""} {
			want := "0"
			if v.is == is || tag == 0 && v.is == `block0("a" 6 1)` {
				want = "1"
			}
			comesTo(t, want, v.list, ins(in(api.InIsBlock, tag)))
		}
	}
	comesTo(t, "1", ins(num(-api.MaxInt), in(api.InIsInt, -api.MaxInt)))
	comesTo(t, "1", ins(num(1), in(api.InBlock, 65535, 1), in(api.InIsBlock, 65535)))
}

func TestP13_3Fields(t *testing.T) {
	three := ins(in(api.InStr, 1), num(6), num(7), in(api.InBlock, 2, 3))
	comesTo(t, `"a"`, three, ins(in(api.InField, 0)))
	comesTo(t, "6", three, ins(in(api.InField, 1)))
	comesTo(t, "7", three, ins(in(api.InField, 2)))
	comesTo(t, "Wrong", three, ins(in(api.InField, 3)))
	comesTo(t, "Wrong", three, ins(in(api.InField, 65535)))
	for _, v := range samples() {
		want := "Wrong"
		if v.is[0] == 'b' {
			want = map[string]string{"block0(5)": "5", "block3(5 6)": "5", `block0("a" 6 1)`: `"a"`}[v.is]
		}
		comesTo(t, want, v.list, ins(in(api.InField, 0)))
	}
	// Of many values.
	comesTo(t, "4999", times(api.MaxStack-1, num(3)), ins(num(4999), in(api.InBlock, 0, api.MaxStack), in(api.InField, api.MaxStack-1)))
}

func TestP13_3Patch(t *testing.T) {
	two := ins(num(4), in(api.InMake, 2), in(api.InStore, 1))
	comesTo(t, "fun2(6)", two, ins(num(6), in(api.InPatch, 1, 0), in(api.InSlot, 1)))
	comesTo(t, "block9(6 7)", two, ins(num(6), in(api.InPatch, 1, 0), in(api.InSlot, 1), num(7), in(api.InCall)))
	comesTo(t, "Wrong", two, ins(num(6), in(api.InPatch, 1, 1), num(0)))
	comesTo(t, "Wrong", two, ins(num(6), in(api.InPatch, 0, 0), num(0)))
	comesTo(t, "Wrong", two, ins(num(6), in(api.InPatch, 1, 65535), num(0)))
	for _, v := range samples() {
		want := "Wrong"
		if v.is == "fun2(4)" {
			want = "1"
		}
		comesTo(t, want, v.list, ins(in(api.InStore, 1), num(6), in(api.InPatch, 1, 0), num(1)))
		// A function may catch anything, itself, too.
		comesTo(t, "fun2("+v.is+")", two, v.list, ins(in(api.InPatch, 1, 0), in(api.InSlot, 1)))
	}
	comesTo(t, "1", two, ins(in(api.InSlot, 1), in(api.InPatch, 1, 0), in(api.InSlot, 1), num(7), in(api.InCall), in(api.InField, 0), in(api.InSlot, 1), in(api.InSame)))
	// All that have the function see it.
	comesTo(t, "block0(fun2(6) fun2(6))", two, ins(in(api.InSlot, 1), in(api.InSlot, 1), num(6), in(api.InPatch, 1, 0), in(api.InBlock, 0, 2)))
}

func TestP13_3Jumps(t *testing.T) {
	comesTo(t, "5", ins(in(api.InJump, 1), num(5), in(api.InJump, 3), in(api.InJump, 4), sign("~"), sign("~")))
	for _, v := range samples() {
		want := "2"
		switch {
		case v.is == "1":
			want = "1"
		case v.is[len(v.is)-1] == ')' || v.is[0] == '"':
			want = "Wrong"
		}
		n := len(v.list)
		comesTo(t, want, v.list, ins(in(api.InUnless, n+3), num(1), in(api.InJump, n+4), num(2)))
	}
	for n, want := range map[int]string{2: "2", -1: "2", 1: "1", 0: "2", api.MaxInt: "2"} {
		comesTo(t, want, ins(num(n), in(api.InUnless, 4), num(1), in(api.InJump, 5), num(2)))
	}
	// Back: 5 down to 1, counted in a slot.
	comesTo(t, "5", ins(
		num(5), in(api.InStore, 0),
		in(api.InSlot, 1), num(1), sign("+"), in(api.InStore, 1),
		in(api.InSlot, 0), num(1), sign("-"), in(api.InStore, 0),
		in(api.InSlot, 0), in(api.InIsInt, 0), in(api.InUnless, 2),
		in(api.InSlot, 1)))
}

func TestP13_3Calls(t *testing.T) {
	for _, v := range samples() {
		if v.is[0] != 'f' {
			comesTo(t, "Wrong", v.list, ins(num(1), in(api.InCall)))
			plays(t, codeOf(append([]api.CodeFun{fun(0, append(v.list, num(1), in(api.InTail))...)}, beside()...)...), 99, 99, api.Outcome{Kind: api.Wrong, Steps: len(v.list) + 1})
		}
	}
	// A call has slots of its own, all 0, and those of the outer one are as they were.
	slots := fun(0, in(api.InSlot, 0), in(api.InArg), in(api.InStore, 0), in(api.InSlot, 0), in(api.InSlot, 2), in(api.InBlock, 0, 3), ret)
	comesBeside(t, []api.CodeFun{slots}, "block1(5 block0(0 7 0) 5 0)",
		num(5), in(api.InStore, 0), in(api.InSlot, 0), in(api.InMake, 1), num(7), in(api.InCall), in(api.InSlot, 0), in(api.InSlot, 1), in(api.InBlock, 1, 4))
	// So has one by InTail; it gives its value to the one that called the first.
	outer := fun(0, num(8), in(api.InStore, 0), num(8), in(api.InStore, 2), in(api.InMake, 1), in(api.InArg), in(api.InTail))
	comesBeside(t, []api.CodeFun{slots, outer}, "block1(5 block0(0 7 0) 0)",
		num(5), in(api.InMake, 2), num(7), in(api.InCall), in(api.InSlot, 1), in(api.InBlock, 1, 3))
	// The function is below the argument.
	comesBeside(t, beside(), "block9(1 fun1())", num(1), in(api.InMake, 2), in(api.InMake, 1), in(api.InCall))
	// Within one another, and what each has caught is its own.
	deep := fun(2, in(api.InFree, 0), in(api.InFree, 1), in(api.InArg), in(api.InCall), in(api.InBlock, 4, 2), ret)
	comesBeside(t, append(beside(), deep), "block4(1 block4(2 block9(3 9)))",
		num(1), num(2), num(3), in(api.InMake, 2), in(api.InMake, 3), in(api.InMake, 3), num(9), in(api.InCall))
}

// No code makes a function of the beginning that has caught something; it would be Wrong to call.
func TestP13_3BaseWithFields(t *testing.T) {
	for fields, want := range map[int]int{0: api.Done, 1: api.Wrong} {
		m := load(t, codeOf(fun(0, in(api.InSlot, 0), num(1), in(api.InCall), ret)), 9)
		f, _ := m.thing(api.ObFun, 60000, fields)
		m.store(0, f)
		m.Go(9)
		if o := m.Tell(); o.Kind != want {
			t.Errorf("%d fields: %v", fields, o)
		}
	}
}

func TestP13_3Done(t *testing.T) {
	for _, v := range samples() {
		with := func(list ...api.Ins) api.Code {
			return codeOf(append([]api.CodeFun{fun(0, list...)}, beside()...)...)
		}
		n := len(v.list)
		plays(t, with(append(v.list, ret)...), 99, 99, api.Outcome{Kind: api.Done, Steps: n + 1})
		// The place of the first call may be taken, too.
		plays(t, with(join(ins(in(api.InMake, 1)), v.list, ins(in(api.InTail)))...), 99, 99, api.Outcome{Kind: api.Done, Steps: n + 4})
		plays(t, with(join(ins(base("ref")), v.list, ins(in(api.InTail)))...), 99, 99, api.Outcome{Kind: api.Done, Steps: n + 2})
	}
	// The value of a function of the beginning is that of the call that it ends.
	tail := func(name string) []api.CodeFun {
		return []api.CodeFun{fun(0, base(name), in(api.InArg), in(api.InTail))}
	}
	comesBeside(t, tail("str"), `block0(1 "~5" 2)`, num(1), in(api.InMake, 1), num(-5), in(api.InCall), num(2), in(api.InBlock, 0, 3))
	comesBeside(t, tail("ref"), `block0(1 cells0(-5) 2)`, num(1), in(api.InMake, 1), num(-5), in(api.InCall), num(2), in(api.InBlock, 0, 3))
	comesBeside(t, tail("chr"), `Bounds`, num(1), in(api.InMake, 1), num(-5), in(api.InCall), num(2), in(api.InBlock, 0, 3))
	comesBeside(t, tail("size"), `Wrong`, num(1), in(api.InMake, 1), num(-5), in(api.InCall), num(2), in(api.InBlock, 0, 3))
}

// At most MaxCalls calls are within one another; one that takes the place of another is not one more, nor is one of a
// function of the beginning.
func TestP13_3MaxCalls(t *testing.T) {
	// Function 1 knows itself, and goes down as far as its argument says.
	down := func(depth int, list ...api.Ins) api.Code {
		return codeOf(
			fun(0, num(0), in(api.InMake, 1), in(api.InStore, 0), in(api.InSlot, 0), in(api.InPatch, 0, 0), in(api.InSlot, 0), num(depth), in(api.InCall), ret),
			fun(1, list...))
	}
	for depth, kind := range map[int]int{0: api.Done, 1: api.Done, api.MaxCalls - 2: api.Done, api.MaxCalls - 1: api.Memory, api.MaxCalls: api.Memory, 2000: api.Memory} {
		// In the innermost call functions of the beginning are called.
		m := load(t, down(depth,
			in(api.InArg), in(api.InIsInt, 0), in(api.InUnless, 8), base("print"), base("str"), num(77), in(api.InCall), in(api.InTail),
			in(api.InFree, 0), in(api.InArg), num(1), sign("-"), in(api.InCall), ret), 100)
		m.Go(api.MaxFuel)
		if o := m.Tell(); o.Kind != kind || kind == api.Done && o.Out != "77" || kind == api.Memory && (o.Out != "" || len(m.calls) != api.MaxCalls) {
			t.Errorf("depth %d: %v, %d calls", depth, o, len(m.calls))
		}
	}
	c := down(5000, in(api.InArg), in(api.InIsInt, 0), in(api.InUnless, 5), num(0), ret, in(api.InFree, 0), in(api.InArg), num(1), sign("-"), in(api.InTail))
	plays(t, c, 2, api.MaxFuel, api.Outcome{Kind: api.Done, Steps: 8 + 5000*8 + 5 + 1})
	// At the greatest depth one goes on by InTail.
	c = down(api.MaxCalls-2, in(api.InArg), in(api.InIsInt, 0), in(api.InUnless, 6), in(api.InFree, 0), num(-1), in(api.InTail),
		in(api.InArg), in(api.InIsInt, -1), in(api.InUnless, 11), num(0), ret, in(api.InFree, 0), in(api.InArg), num(1), sign("-"), in(api.InCall), ret)
	if o, _ := Play(written(t, c), 2, api.MaxFuel); o.Kind != api.Done {
		t.Error(o)
	}
}

// A loop of InTail makes nothing grow.
func TestP13_3TailForever(t *testing.T) {
	c := codeOf(fun(0, in(api.InMake, 1), in(api.InStore, 0), in(api.InSlot, 0), in(api.InSlot, 0), in(api.InCall), ret),
		fun(0, num(1), in(api.InStore, 2), in(api.InArg), in(api.InArg), in(api.InTail)))
	m := load(t, c, 1)
	if did := m.Go(api.MaxFuel); did != api.MaxFuel || len(m.calls) != 2 || len(m.slots) > 6 || len(m.values) > 2 || cap(m.values) > 100 {
		t.Errorf("%d, %d calls, %d slots, %d values", did, len(m.calls), len(m.slots), len(m.values))
	}
}
