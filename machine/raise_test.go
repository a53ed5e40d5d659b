package machine

import (
	"testing"

	"mlcore/api"
)

// raised is a block with one of the exceptions of the beginning, raised.
func raised(n int) []api.Ins { return ins(in(api.InStd, n), in(api.InBlock, 0, 1), in(api.InRaise)) }

func TestP13_3Raise(t *testing.T) {
	for _, v := range samples() {
		comesTo(t, "Wrong", v.list, ins(in(api.InRaise)))
		want := map[string]string{"-1": "Match", "-6": "Size", "exn0(6)": "E", "exn1(0)": ""}
		name, ok := want[v.is]
		if !ok {
			name = "Wrong"
		}
		comesTo(t, name, v.list, ins(in(api.InBlock, 7, 1), in(api.InRaise)))
		comesTo(t, name, v.list, ins(num(3), in(api.InBlock, 0, 2), in(api.InRaise)))
		comesTo(t, "Wrong", ins(num(3)), v.list, ins(in(api.InBlock, 0, 2), in(api.InRaise)))
	}
	for n, name := range map[int]string{0: "Wrong", -1: "Match", -2: "Bind", -3: "Overflow", -4: "Div", -5: "Bounds", -6: "Size", -7: "Wrong", 1: "Wrong", -api.MaxInt: "Wrong"} {
		comes(t, name, num(n), in(api.InBlock, 0, 1), in(api.InRaise))
	}
	// The name is a text, whatever it says.
	for i, s := range texts() {
		plays(t, codeOf(fun(0, in(api.InExn, i, 1), num(5), in(api.InBlock, 0, 2), in(api.InRaise))), 5, 99, api.Outcome{Kind: api.Raised, Name: s, Steps: 4})
	}
}

func TestP13_3Try(t *testing.T) {
	// What was raised is on top, in the place of what was above the try's values.
	for _, v := range samples() {
		if v.is != "-1" && v.is != "-6" && v.is[0] != 'e' {
			continue
		}
		n := len(v.list)
		comesTo(t, "block1(7 block5("+v.is+" 4))", ins(num(7), in(api.InTry, n+7), num(1), num(2)), v.list, ins(num(4), in(api.InBlock, 5, 2), in(api.InRaise), in(api.InBlock, 1, 2)))
	}
	// What the machine raises itself is a block with the number alone.
	for want, list := range map[string][]api.Ins{
		"block0(-3)": ins(num(api.MaxInt), num(1), sign("+")), "block0(-4)": ins(num(1), num(0), sign("%")), "block0(-5)": ins(base("chr"), num(999), in(api.InCall)), "block0(-6)": ins(in(api.InStr, 5), in(api.InStr, 5), sign("^")),
	} {
		comesTo(t, "block1(7 "+want+")", ins(num(7), in(api.InTry, 7), num(8)), list, ins(in(api.InRaise), in(api.InBlock, 1, 2)))
	}
	// A try that is over is none: raised within, handled once; raised again, by the outer one.
	comes(t, "Div", join(ins(in(api.InTry, 3), num(1), in(api.InEnd), in(api.InDrop)), raised(3))...)
	comes(t, "Bind", join(ins(in(api.InTry, 4)), raised(3), ins(in(api.InDrop)), raised(1))...)
	comes(t, "block3(block0(-2))", join(ins(in(api.InTry, 9), in(api.InTry, 5)), raised(3), ins(in(api.InDrop)), raised(1), ins(in(api.InBlock, 3, 1)))...)
	// The last one of several, and then the one ahead of it.
	comes(t, "block1(block0(-5) block2(5 block0(-4)))", join(ins(in(api.InTry, 11), num(5), in(api.InTry, 6)), raised(3), ins(in(api.InBlock, 2, 2), in(api.InStore, 0)), raised(4), ins(in(api.InSlot, 0), in(api.InBlock, 1, 2)))...)
}

// Calls that have no try are left, with their slots and values; the one that has goes on with its own.
func TestP13_3Unwind(t *testing.T) {
	// 0 tries, and calls 1 with 1 with 2
	list := ins(num(9), in(api.InStore, 0), num(8), in(api.InTry, 13), num(7), in(api.InMake, 2), in(api.InMake, 1), in(api.InMake, 1), num(6), in(api.InCall), in(api.InEnd), in(api.InDrop), in(api.InJump, 13),
		in(api.InSlot, 0), in(api.InSlot, 1), in(api.InSlot, 2), in(api.InBlock, 1, 5))
	calling := []api.CodeFun{
		fun(1, num(1), in(api.InStore, 0), num(2), num(3), in(api.InBlock, 0, 2), in(api.InStore, 1), in(api.InFree, 0), in(api.InArg), in(api.InCall), ret),
		fun(0, join(ins(num(4), in(api.InStore, 2), num(5)), raised(4))...),
	}
	comesBeside(t, calling, "block1(8 block0(-5) 9 0 0)", list...)
	// Nothing handles it.
	outside := ins(in(api.InMake, 2), in(api.InMake, 1), in(api.InMake, 1), num(6), in(api.InCall))
	comesBeside(t, calling, "Bounds", outside...)
	// The innermost that has one, be it called by InTail.
	handling := append(calling,
		fun(1, in(api.InTry, 6), in(api.InFree, 0), in(api.InArg), in(api.InCall), in(api.InEnd), ret, in(api.InField, 0), ret),
		fun(1, in(api.InFree, 0), in(api.InArg), in(api.InTail)))
	comesBeside(t, handling, "-5", in(api.InTry, 7), in(api.InMake, 2), in(api.InMake, 3), in(api.InMake, 1), num(6), in(api.InCall), in(api.InEnd), in(api.InJump, 8))
	comesBeside(t, handling, "-5", in(api.InMake, 2), in(api.InMake, 3), in(api.InMake, 4), in(api.InMake, 1), num(6), in(api.InCall))
	comesBeside(t, handling, "-5", in(api.InMake, 2), in(api.InMake, 4), in(api.InMake, 3), num(6), in(api.InCall))
	comesBeside(t, handling, "Bounds", in(api.InMake, 2), in(api.InMake, 4), in(api.InMake, 4), num(6), in(api.InCall))
	// A try of a call that has returned is gone with it.
	comesBeside(t, append(handling, fun(0, in(api.InArg), ret)), "Div", join(ins(in(api.InMake, 5), in(api.InMake, 3), num(1), in(api.InCall)), raised(3))...)
}

// Within a try values may be taken that were there ahead of it: then what was raised comes behind what is left, and what
// is missing is Wrong to take.
func TestP13_3MissingValues(t *testing.T) {
	list := join(ins(num(7), num(8), in(api.InTry, 8), in(api.InDrop), in(api.InDrop)), raised(3))
	for _, r := range []struct {
		end  []api.Ins
		want api.Outcome
	}{
		{ins(in(api.InField, 0), in(api.InBlock, 0, 3), ret), api.Outcome{Kind: api.Wrong, Steps: 9}},
		{ins(in(api.InDrop), in(api.InDrop), ret), api.Outcome{Kind: api.Wrong, Steps: 9}},
		{ins(in(api.InStore, 0), sign("+"), ret), api.Outcome{Kind: api.Wrong, Steps: 9}},
		{ins(in(api.InStore, 0), in(api.InStore, 0), ret), api.Outcome{Kind: api.Wrong, Steps: 9}},
		{ins(in(api.InStore, 0), in(api.InTail)), api.Outcome{Kind: api.Wrong, Steps: 9}},
		{ins(in(api.InStore, 0), in(api.InUnless, 10), ret), api.Outcome{Kind: api.Wrong, Steps: 9}},
		{ins(in(api.InStore, 0), in(api.InCall), ret), api.Outcome{Kind: api.Wrong, Steps: 9}},
		{ins(in(api.InRaise)), api.Outcome{Kind: api.Raised, Name: "Div", Steps: 9}},
		{ins(in(api.InStore, 0), in(api.InRaise)), api.Outcome{Kind: api.Wrong, Steps: 9}},
		{ins(in(api.InStore, 0), in(api.InJump, 9)), api.Outcome{Kind: api.Going, Steps: 99}},
	} {
		plays(t, codeOf(fun(0, join(list, r.end)...)), 9, 99, r.want)
	}
	// What an instruction has taken that raises something is not left either.
	for _, raising := range [][]api.Ins{{num(1), num(0), sign("/")}, {base("chr"), num(-1), in(api.InCall)}} {
		c := codeOf(fun(0, join(ins(num(7), num(8), in(api.InTry, 9), in(api.InDrop), in(api.InDrop)), raising, ins(in(api.InRaise), in(api.InStore, 0), in(api.InDrop), ret))...))
		plays(t, c, 9, 99, api.Outcome{Kind: api.Wrong, Steps: 9})
	}
	// One of the two was put again: it is what is there now.
	comes(t, "block0(7 9 block0(-4))", join(ins(num(7), num(8), in(api.InTry, 8), in(api.InDrop), num(9)), raised(3), ins(in(api.InBlock, 0, 3)))...)
	// In an inner call: the values of the outer one are not its own.
	inner := fun(0, join(ins(num(1), in(api.InTry, 6), in(api.InDrop)), raised(2), ins(in(api.InDrop), ret))...)
	plays(t, codeOf(fun(0, num(5), num(6), in(api.InMake, 1), num(4), in(api.InCall), in(api.InBlock, 0, 3), ret), inner), 9, 99, api.Outcome{Kind: api.Wrong, Steps: 5 + 7})
}
