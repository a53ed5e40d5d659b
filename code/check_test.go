package code

import (
	"math"
	"slices"
	"testing"

	"mlcore/api"
)

// checked holds what Check says of a code to what it should.
func checked(t *testing.T, c api.Code, kind api.Errno, at int) {
	t.Helper()
	if f := Check(c); f != (api.Fault{Kind: kind, At: at}) {
		t.Errorf("%s: %v, want %v at %d", short(c), f, kind, at)
	}
}

// good looks at a function, which is the second one and may catch nothing.
func good(t *testing.T, list ...api.Ins) {
	t.Helper()
	checked(t, codeOf(unit(), body(list...)), api.OK, 0)
}

// stuck looks at a function that does not flow at this one of its instructions.
func stuck(t *testing.T, at int, list ...api.Ins) {
	t.Helper()
	checked(t, codeOf(body(list...)), api.ErrFlow, at)
	checked(t, codeOf(unit(), unit(), body(list...)), api.ErrFlow, 4+at)
	checked(t, codeOf(unit(), body(list...), body(in(api.InSlot, 9))), api.ErrFlow, 2+at)
}

func TestP12_3Functions(t *testing.T) {
	checked(t, api.Code{}, api.ErrNumber, 0)
	checked(t, api.Code{Texts: []string{"a"}}, api.ErrNumber, 0)
	checked(t, codeOf(unit()), api.OK, 0)
	catching := unit()
	catching.Free = 1
	checked(t, codeOf(catching), api.ErrNumber, 0)
	checked(t, codeOf(catching, unit()), api.ErrNumber, 0)
	checked(t, codeOf(unit(), catching), api.OK, 0)
	checked(t, codeOf(slices.Repeat([]api.CodeFun{unit()}, 60000)...), api.OK, 0)
	checked(t, codeOf(slices.Repeat([]api.CodeFun{unit()}, 60001)...), api.ErrNumber, 0)
	checked(t, codeOf(append(slices.Repeat([]api.CodeFun{unit()}, 59999), body(in(api.InMake, 60000), in(api.InReturn)))...), api.ErrNumber, 2*59999)
}

// operandCode is a code with three functions, in the second of which an instruction stands, with enough values for it.
func operandCode(x api.Ins) api.Code {
	list := append(times(3, in(api.InInt, 1)), in(api.InTry, 4), in(api.InInt, 2), x)
	return api.Code{Texts: []string{"a", "b"}, Funs: []api.CodeFun{unit(), {Free: 3, Slots: 2, Ins: list}, {Free: 2, Slots: 9, Ins: unit().Ins}}}
}

// Each operand goes as far as there is something, and no farther. (The flow of these functions is at fault; it comes behind the operands.)
func TestP12_3Operands(t *testing.T) {
	const last = 2 + 5
	for _, r := range []struct {
		op, least, most, b int
		kind               api.Errno
	}{
		{api.InJump, 0, 5, 0, api.ErrJump}, {api.InUnless, 0, 5, 0, api.ErrJump}, {api.InTry, 0, 5, 0, api.ErrJump},
		{api.InStr, 0, 1, 0, api.ErrNumber}, {api.InExn, 0, 1, 1, api.ErrNumber}, {api.InExn, 0, 1, 0, api.ErrNumber},
		{api.InBase, 0, 11, 0, api.ErrNumber}, {api.InSign, 0, 14, 0, api.ErrNumber}, {api.InStd, 0, 5, 0, api.ErrNumber},
		{api.InFree, 0, 2, 0, api.ErrNumber}, {api.InSlot, 0, 1, 0, api.ErrNumber}, {api.InStore, 0, 1, 0, api.ErrNumber},
		{api.InPatch, 0, 1, 0, api.ErrNumber}, {api.InPatch, 0, 1, 65535, api.ErrNumber}, {api.InMake, 1, 2, 0, api.ErrNumber},
		{api.InField, 0, 65535, 0, api.OK}, {api.InIsBlock, 0, 65535, 0, api.OK}, {api.InBlock, 0, 65535, 1, api.OK},
		{api.InInt, -api.MaxInt, api.MaxInt, 0, api.OK}, {api.InIsInt, -api.MaxInt, api.MaxInt, 0, api.OK},
	} {
		for _, a := range []int{-api.MaxInt, 0, 1, 2, 3, 4, 5, 6, 7, 8, 9, 11, 12, 13, 14, 15, 16, 100, 60000, 65535, api.MaxInt} {
			c := operandCode(in(r.op, a, r.b))
			if _, e := Encode(c); e != api.OK {
				continue
			}
			f := Check(c)
			if wrong := a < r.least || a > r.most; wrong != (f == api.Fault{Kind: r.kind, At: last}) || !wrong && f.Kind != api.OK && f.Kind != api.ErrFlow {
				t.Errorf("%d %d %d: %v", r.op, a, r.b, f)
			}
		}
	}
	for b, kind := range map[int]api.Errno{0: api.OK, 1: api.OK, 2: api.ErrNumber, 65535: api.ErrNumber} {
		f := Check(operandCode(in(api.InExn, 1, b)))
		if (f == api.Fault{Kind: api.ErrNumber, At: last}) != (kind == api.ErrNumber) {
			t.Errorf("InExn 1 %d: %v", b, f)
		}
	}
	checked(t, operandCode(in(api.InBlock, 0, 0)), api.ErrNumber, last)
	checked(t, operandCode(in(api.InBlock, 65535, 0)), api.ErrNumber, last)
}

// What a function may ask for is its own: the argument, what it has caught, its slots, its instructions.
func TestP12_3OwnOperands(t *testing.T) {
	checked(t, codeOf(body(in(api.InArg), in(api.InReturn))), api.ErrNumber, 0)
	checked(t, codeOf(unit(), body(in(api.InArg), in(api.InReturn))), api.OK, 0)
	own := func(free, slots int, list ...api.Ins) api.CodeFun {
		return api.CodeFun{Free: free, Slots: slots, Ins: append(list, in(api.InReturn))}
	}
	checked(t, codeOf(own(0, 0, in(api.InSlot, 0)), own(1, 1, in(api.InSlot, 0))), api.ErrNumber, 0)
	checked(t, codeOf(own(0, 1, in(api.InSlot, 0)), own(1, 0, in(api.InFree, 0))), api.OK, 0)
	checked(t, codeOf(own(0, 1, in(api.InSlot, 0)), own(1, 0, in(api.InFree, 0)), own(0, 0, in(api.InFree, 0))), api.ErrNumber, 4)
	checked(t, codeOf(own(0, 1, in(api.InFree, 0)), own(1, 0, in(api.InFree, 0))), api.ErrNumber, 0)
	checked(t, codeOf(own(0, 0, times(5, in(api.InInt))...), own(0, 0, in(api.InInt))), api.ErrFlow, 5)
	checked(t, codeOf(unit(), body(in(api.InJump, 2), in(api.InReturn))), api.ErrJump, 2)
	checked(t, codeOf(unit(), body(in(api.InInt), in(api.InReturn), in(api.InJump, 3))), api.ErrJump, 4)
	checked(t, codeOf(unit(), body(in(api.InInt), in(api.InMake, 0), in(api.InReturn))), api.ErrNumber, 3)
	checked(t, codeOf(body(in(api.InMake, 1), in(api.InReturn))), api.ErrNumber, 0)
}

// Of one function the operands come first; but a function's flow comes ahead of the next one's operands.
func TestP12_3Order(t *testing.T) {
	bad := body(in(api.InReturn), in(api.InSlot, 1))
	checked(t, codeOf(bad), api.ErrNumber, 1)
	checked(t, codeOf(body(in(api.InReturn)), bad), api.ErrFlow, 0)
	checked(t, codeOf(unit(), bad, body(in(api.InReturn))), api.ErrNumber, 3)
	checked(t, codeOf(unit(), body(in(api.InSlot, 1), in(api.InJump, 9))), api.ErrNumber, 2)
	checked(t, codeOf(unit(), body(in(api.InJump, 9), in(api.InSlot, 1))), api.ErrJump, 2)
	checked(t, codeOf(unit(), body(in(api.InInt)), bad), api.ErrFlow, 3)
	checked(t, codeOf(unit(), body(), bad), api.ErrFlow, 2)
}

// effect is how many values an instruction takes, and puts; it goes on with the next one.
type effect struct {
	x           api.Ins
	takes, puts int
}

func effects() []effect {
	return []effect{
		{in(api.InInt, 5), 0, 1}, {in(api.InStr, 0), 0, 1}, {in(api.InBase, 1), 0, 1}, {in(api.InArg), 0, 1}, {in(api.InFree, 0), 0, 1}, {in(api.InSlot, 0), 0, 1},
		{in(api.InStore, 0), 1, 0}, {in(api.InBlock, 0, 1), 1, 1}, {in(api.InBlock, 9, 2), 2, 1}, {in(api.InBlock, 0, 5), 5, 1}, {in(api.InField, 3), 1, 1},
		{in(api.InIsInt, 4), 1, 1}, {in(api.InIsBlock, 4), 1, 1}, {in(api.InSame), 2, 1}, {in(api.InSign, 0), 2, 1}, {in(api.InSign, 11), 2, 1}, {in(api.InSign, 12), 1, 1}, {in(api.InSign, 13), 2, 1}, {in(api.InSign, 14), 1, 1},
		{in(api.InMake, 1), 1, 1}, {in(api.InMake, 2), 0, 1}, {in(api.InMake, 3), 4, 1}, {in(api.InPatch, 0, 7), 1, 0}, {in(api.InCall), 2, 1},
		{in(api.InExn, 0, 1), 0, 1}, {in(api.InStd, 2), 0, 1}, {in(api.InDrop), 1, 0},
	}
}

// effectCode has an instruction with so many values ahead of it, and behind it takes so many away, and returns.
func effectCode(x api.Ins, before, after int) api.Code {
	list := append(times(before, in(api.InInt, 1)), x)
	list = append(append(list, times(after, in(api.InDrop))...), unit().Ins...)
	return api.Code{Texts: []string{"E"}, Funs: []api.CodeFun{unit(), {Free: 1, Slots: 1, Ins: list}, unit(), {Free: 4, Ins: unit().Ins}}}
}

// Each instruction takes as many values as it says, and puts one or none.
func TestP12_3Values(t *testing.T) {
	for _, e := range effects() {
		for before := range 8 {
			for after := range 8 {
				c := effectCode(e.x, before, after)
				left := before - e.takes + e.puts
				switch {
				case before < e.takes:
					checked(t, c, api.ErrFlow, 2+before)
				case after > left:
					checked(t, c, api.ErrFlow, 2+before+1+left)
				case after < left:
					checked(t, c, api.ErrFlow, 2+before+1+after+1)
				default:
					checked(t, c, api.OK, 0)
				}
			}
		}
	}
}

// A call ends with what it takes, and nothing else, and within no try.
func TestP12_3Leaving(t *testing.T) {
	one, try, end := in(api.InInt, 1), in(api.InTry, 0), in(api.InEnd)
	for before := range 5 {
		for op, takes := range map[int]int{api.InReturn: 1, api.InTail: 2} {
			list := append(times(before, one), in(op))
			if before == takes {
				good(t, list...)
			} else {
				stuck(t, before, list...)
			}
		}
		list := append(times(before, one), in(api.InRaise))
		if before > 0 {
			good(t, list...)
		} else {
			stuck(t, before, list...)
		}
	}
	ret := in(api.InReturn)
	stuck(t, 2, in(api.InTry, 3), one, ret, ret)
	stuck(t, 3, in(api.InTry, 4), one, one, in(api.InTail), ret)
	good(t, in(api.InTry, 4), one, end, ret, ret)
	good(t, in(api.InTry, 5), one, one, end, in(api.InTail), ret)
	good(t, in(api.InTry, 3), one, in(api.InRaise), ret)
	good(t, in(api.InTry, 4), one, one, in(api.InRaise), ret)
	stuck(t, 0, end)
	stuck(t, 1, one, end, ret)
	stuck(t, 3, in(api.InTry, 5), one, end, end, ret, ret)
	stuck(t, 0, try)
}

func TestP12_3Tries(t *testing.T) {
	one, end, ret, drop := in(api.InInt, 1), in(api.InEnd), in(api.InReturn), in(api.InDrop)
	// At the place of a try there is one value more than ahead of it, and it is over.
	good(t, in(api.InTry, 3), one, in(api.InRaise), ret)
	good(t, one, in(api.InTry, 4), one, in(api.InRaise), drop, ret)
	stuck(t, 4, one, in(api.InTry, 4), one, in(api.InRaise), ret)
	stuck(t, 3, in(api.InTry, 3), one, in(api.InRaise), end, ret)
	// One within another.
	good(t, in(api.InTry, 6), in(api.InTry, 5), one, end, in(api.InJump, 5), end, ret)
	good(t, in(api.InTry, 7), one, in(api.InTry, 5), one, in(api.InRaise), drop, end, ret)
	stuck(t, 6, in(api.InTry, 6), in(api.InTry, 4), one, in(api.InRaise), end, in(api.InJump, 6), end, ret)
	// Its place is known ahead of what is behind it.
	stuck(t, 0, in(api.InTry, 1), one, end, ret)
	stuck(t, 0, in(api.InTry, 0), one, end, ret)
	stuck(t, 2, one, drop, in(api.InTry, 0), one, end, ret)
	// Back to where there was one more.
	good(t, one, in(api.InUnless, 0), one, drop, in(api.InTry, 6), in(api.InJump, 5), ret)
	good(t, one, drop, in(api.InTry, 1), end, in(api.InJump, 0))
	stuck(t, 2, one, drop, in(api.InTry, 2), end, in(api.InJump, 0))
}

func TestP12_3Jumps(t *testing.T) {
	one, ret, drop, jump := in(api.InInt, 1), in(api.InReturn), in(api.InDrop), in(api.InJump, 0)
	good(t, jump)
	good(t, one, drop, jump)
	stuck(t, 1, one, jump)
	stuck(t, 1, jump, ret)
	stuck(t, 2, one, in(api.InJump, 3), one, ret)
	good(t, one, in(api.InJump, 2), ret)
	good(t, one, in(api.InUnless, 4), one, ret, one, ret)
	good(t, one, in(api.InUnless, 4), one, in(api.InJump, 5), one, ret)
	good(t, one, in(api.InUnless, 2), one, ret)
	good(t, one, in(api.InUnless, 0), one, ret)
	stuck(t, 1, one, in(api.InUnless, 1), one, ret)
	stuck(t, 0, in(api.InUnless, 0), one, ret)
	stuck(t, 2, one, in(api.InUnless, 3), one, one, ret)
	stuck(t, 3, one, in(api.InUnless, 4), one, in(api.InJump, 4), one, ret)
	// The same values, but not the same tries.
	stuck(t, 5, one, in(api.InUnless, 5), in(api.InTry, 8), one, in(api.InJump, 6), one, in(api.InEnd), ret, ret)
	stuck(t, 3, one, drop, in(api.InTry, 1), jump)
	// What is known only from behind is not known.
	stuck(t, 1, in(api.InJump, 2), drop, one, in(api.InJump, 1))
	stuck(t, 2, one, ret, one, ret)
	stuck(t, 2, one, in(api.InRaise), ret)
	stuck(t, 3, one, one, in(api.InTail), ret)
}

// What goes on behind the last instruction is told there; what else is wrong with the last one comes first.
func TestP12_3Behind(t *testing.T) {
	one := in(api.InInt, 1)
	stuck(t, 0)
	stuck(t, 1, one)
	stuck(t, 2, one, in(api.InDrop))
	stuck(t, 2, one, in(api.InUnless, 0))
	stuck(t, 1, one, in(api.InUnless, 1))
	stuck(t, 4, one, in(api.InDrop), in(api.InTry, 1), in(api.InEnd))
	stuck(t, 3, one, in(api.InDrop), in(api.InTry, 1))
	stuck(t, 2, one, in(api.InDrop), in(api.InTry, 2))
	stuck(t, 0, in(api.InDrop))
	stuck(t, api.MaxStack, times(api.MaxStack, one)...)
	stuck(t, api.MaxStack, times(api.MaxStack+1, one)...)
	checked(t, codeOf(unit(), body(), unit()), api.ErrFlow, 2)
	checked(t, codeOf(unit(), unit(), body(in(api.InInt), in(api.InInt))), api.ErrFlow, 6)
}

func TestP12_3MaxStack(t *testing.T) {
	one := in(api.InInt, 1)
	full := func(n int, list ...api.Ins) []api.Ins { return append(times(n, one), list...) }
	good(t, full(api.MaxStack, in(api.InBlock, 0, api.MaxStack), in(api.InReturn))...)
	good(t, full(api.MaxStack, in(api.InField, 0), in(api.InSign, 14), in(api.InRaise))...)
	stuck(t, api.MaxStack, full(api.MaxStack+1, in(api.InRaise))...)
	stuck(t, api.MaxStack, full(api.MaxStack, in(api.InTry, api.MaxStack+1), in(api.InRaise))...)
	good(t, full(api.MaxStack-1, in(api.InTry, api.MaxStack+1), in(api.InRaise), in(api.InRaise))...)
	stuck(t, api.MaxStack, full(api.MaxStack, in(api.InStd, 0), in(api.InRaise))...)
	stuck(t, api.MaxStack, full(api.MaxStack, in(api.InBlock, 0, api.MaxStack+1), in(api.InRaise))...)
	stuck(t, 1, in(api.InInt), in(api.InBlock, 0, 65535), in(api.InReturn))
}

// Of a code that Encode does not write anything may be said; but it is said.
func TestP1CheckOthers(t *testing.T) {
	wild := []int{math.MinInt, -api.MaxInt, -65536, -1, 0, 1, 2, 25, 26, 27, 65536, 1 << 32, math.MaxInt}
	for _, op := range append(wild, 3, 4, 5, 6, 7, 8, 9, 10, 11, 12, 13, 14, 15, 16, 17, 18, 19, 20, 21, 22, 23, 24) {
		for _, a := range wild {
			for _, b := range wild {
				for _, n := range wild {
					list := []api.Ins{in(api.InInt, 1), in(api.InInt, 1), in(op, a, b), in(api.InReturn)}
					Check(codeOf(unit(), api.CodeFun{Free: n, Slots: n, Ins: list}, api.CodeFun{Free: n}))
					Encode(codeOf(unit(), api.CodeFun{Free: n, Slots: n, Ins: list}))
				}
			}
		}
	}
}

// The greatest code that there is takes no more time than it needs.
func TestP1CodeTime(t *testing.T) {
	c := codeOf()
	for range 60 {
		c.Funs = append(c.Funs, body(append(slices.Repeat([]api.Ins{in(api.InTry, 0), in(api.InEnd)}, 32000), unit().Ins...)...))
	}
	for _, f := range c.Funs {
		for i, x := range f.Ins {
			if x.Op == api.InTry {
				f.Ins[i] = in(api.InTry, len(f.Ins)-1)
			}
		}
	}
	s, e := Encode(c)
	if e != api.ErrLong {
		t.Fatalf("%d bytes: %v", len(s), e)
	}
	c.Funs = c.Funs[:31]
	if d := read(t, written(t, c)); !sameCode(d, c) {
		t.Error("not what was written")
	}
	checked(t, c, api.OK, 0)
}
