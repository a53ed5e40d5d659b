package machine

import (
	"math"
	"strings"
	"testing"

	"mlcore/api"
	"mlcore/code"
)

func TestP13_1Faults(t *testing.T) {
	good := written(t, codeOf(fun(0, num(1), ret)))
	noFlow, _ := code.Encode(codeOf(fun(0, num(1), num(1), ret)))
	noFuns, _ := code.Encode(codeOf())
	caught, _ := code.Encode(codeOf(fun(1, num(1), ret)))
	for _, r := range []struct {
		s     string
		cells int
		want  api.Fault
	}{
		{good, 0, api.Fault{}}, {good, 1, api.Fault{}}, {good, api.MaxHeap, api.Fault{}},
		{good, -1, api.Fault{Kind: api.ErrArg}}, {good, api.MaxHeap + 1, api.Fault{Kind: api.ErrArg}}, {good, math.MinInt, api.Fault{Kind: api.ErrArg}}, {good, math.MaxInt, api.Fault{Kind: api.ErrArg}},
		{"", 1, api.Fault{Kind: api.ErrEnd}}, {"MX1", 1, api.Fault{Kind: api.ErrHead, At: 1}}, {"ML1", 1, api.Fault{Kind: api.ErrEnd, At: 3}},
		{good + "x", 1, api.Fault{Kind: api.ErrEnd, At: len(good)}}, {good[:len(good)-1], 1, api.Fault{Kind: api.ErrEnd, At: len(good) - 1}}, {good[:len(good)-1] + "\x1a", 1, api.Fault{Kind: api.ErrOp, At: len(good) - 1}},
		{strings.Repeat("M", api.MaxCode+1), 1, api.Fault{Kind: api.ErrLong}},
		{noFlow, 1, api.Fault{Kind: api.ErrFlow, At: 2}}, {noFuns, 1, api.Fault{Kind: api.ErrNumber}}, {caught, 1, api.Fault{Kind: api.ErrNumber}},
		// The bytes come first, then whether it can be run, then the heap.
		{"ML1", -1, api.Fault{Kind: api.ErrEnd, At: 3}}, {noFlow, -1, api.Fault{Kind: api.ErrFlow, At: 2}}, {noFlow + "x", -1, api.Fault{Kind: api.ErrEnd, At: len(noFlow)}},
	} {
		m, f := Load(r.s, r.cells)
		if f != r.want || (m == nil) != (f.Kind != api.OK) {
			t.Errorf("%.60q in %d cells: %v %v, want %v", r.s, r.cells, m, f, r.want)
		}
		o, f := Play(r.s, r.cells, 10)
		if f != r.want || (o == api.Outcome{}) != (f.Kind != api.OK) {
			t.Errorf("%.60q in %d cells: %v %v, want %v", r.s, r.cells, o, f, r.want)
		}
	}
}

func TestP13_1Beginning(t *testing.T) {
	m := load(t, codeOf(fun(0, in(api.InSlot, 0), in(api.InSlot, 2), in(api.InBlock, 0, 2), ret)), 3)
	if o := m.Tell(); o != (api.Outcome{Kind: api.Going}) || m.Live() != 0 {
		t.Errorf("%v, %d cells", o, m.Live())
	}
	m.Go(3)
	if s := m.ending(); s != "block0(0 0)" {
		t.Error(s)
	}
}

func TestP13_2Go(t *testing.T) {
	c := codeOf(fun(0, append(times(10, num(1), in(api.InDrop)), num(3), ret)...))
	m := load(t, c, 0)
	for _, r := range []struct{ n, did, steps, kind int }{
		{0, 0, 0, api.Going}, {-1, 0, 0, api.Going}, {math.MinInt, 0, 0, api.Going}, {1, 1, 1, api.Going}, {4, 4, 5, api.Going},
		{16, 16, 21, api.Going}, {0, 0, 21, api.Going}, {2, 1, 22, api.Done}, {1, 0, 22, api.Done}, {math.MaxInt, 0, 22, api.Done}, {-5, 0, 22, api.Done},
	} {
		if did := m.Go(r.n); did != r.did || m.Tell() != (api.Outcome{Kind: r.kind, Steps: r.steps}) {
			t.Errorf("Go(%d): %d, %v, want %v", r.n, did, m.Tell(), r)
		}
	}
}

func TestP13_2MaxFuel(t *testing.T) {
	c := codeOf(fun(0, in(api.InJump, 0)))
	m := load(t, c, 0)
	for i, n := range []int{api.MaxFuel + 1, math.MaxInt, api.MaxFuel} {
		if did := m.Go(n); did != api.MaxFuel || m.Tell() != (api.Outcome{Kind: api.Going, Steps: (i + 1) * api.MaxFuel}) {
			t.Errorf("Go(%d): %d, %v", n, did, m.Tell())
		}
	}
	if did := m.Go(api.MaxFuel - 1); did != api.MaxFuel-1 {
		t.Error(did)
	}
}

// What ends it as Done or Raised was done; what ends it as Memory or Wrong was not, and nothing of it.
func TestP13_2Ends(t *testing.T) {
	pair := ins(num(1), num(2), in(api.InBlock, 5, 2))
	raise := ins(in(api.InStd, 4), in(api.InBlock, 0, 1), in(api.InRaise))
	for _, r := range []struct {
		list  []api.Ins
		cells int
		want  api.Outcome
		live  int
	}{
		{join(pair, ins(ret)), 3, api.Outcome{Kind: api.Done, Steps: 4}, 0},
		{join(pair, raise), 5, api.Outcome{Kind: api.Raised, Name: "Bounds", Steps: 6}, 0},
		{join(pair, raise), 4, api.Outcome{Kind: api.Memory, Steps: 4}, 3},
		{join(pair, ins(num(0), sign("/"), ret)), 5, api.Outcome{Kind: api.Wrong, Steps: 4}, 3},
		{join(pair, ins(num(1), num(0), sign("/"), in(api.InRaise))), 5, api.Outcome{Kind: api.Raised, Name: "Div", Steps: 6}, 0},
		{join(pair, ins(num(1), num(0), sign("/"), in(api.InRaise))), 4, api.Outcome{Kind: api.Memory, Steps: 5}, 3},
		{join(pair, ins(in(api.InField, 2), ret)), 5, api.Outcome{Kind: api.Wrong, Steps: 3}, 3},
		{join(pair, ins(in(api.InRaise))), 5, api.Outcome{Kind: api.Wrong, Steps: 3}, 3},
		{join(pair, ins(base("ref"), num(1), in(api.InCall), in(api.InBlock, 0, 2), ret)), 6, api.Outcome{Kind: api.Memory, Steps: 6}, 5},
		{join(pair, ins(in(api.InUnless, 0), num(0), ret)), 6, api.Outcome{Kind: api.Wrong, Steps: 3}, 3},
	} {
		c := codeOf(fun(0, r.list...))
		plays(t, c, r.cells, 100, r.want)
		m := load(t, c, r.cells)
		if did := m.Go(100); did != r.want.Steps || m.Live() != r.live {
			t.Errorf("%s: did %d, %d cells, want %d, %d", short(c), did, m.Live(), r.want.Steps, r.live)
		}
		if m.Go(100) != 0 || m.Tell() != r.want || m.Live() != r.live {
			t.Errorf("%s goes on: %v", short(c), m.Tell())
		}
	}
}

// What has been printed is told ahead of the end, and with every end.
func TestP13_2Out(t *testing.T) {
	hello := ins(base("print"), in(api.InStr, 2), in(api.InCall), in(api.InDrop))
	for _, r := range []struct {
		end  []api.Ins
		want api.Outcome
	}{
		{ins(num(0), ret), api.Outcome{Kind: api.Done, Out: "bcbc", Steps: 10}},
		{ins(num(0), in(api.InRaise)), api.Outcome{Kind: api.Wrong, Out: "bcbc", Steps: 9}},
		{ins(num(0), num(0), sign("%"), ret), api.Outcome{Kind: api.Raised, Name: "Div", Out: "bcbc", Steps: 11}},
		{ins(in(api.InStr, 5), ret), api.Outcome{Kind: api.Memory, Out: "bcbc", Steps: 8}},
	} {
		c := codeOf(fun(0, join(hello, hello, r.end)...))
		plays(t, c, 20, 100, r.want)
		plays(t, c, 20, 7, api.Outcome{Kind: api.Going, Out: "bcbc", Steps: 7})
		plays(t, c, 20, 6, api.Outcome{Kind: api.Going, Out: "bc", Steps: 6})
		plays(t, c, 20, 2, api.Outcome{Kind: api.Going, Steps: 2})
	}
}

func TestP13_4Live(t *testing.T) {
	// After each instruction: what slots, values, the function and the argument reach, each thing once.
	inner := fun(1,
		in(api.InArg), in(api.InStore, 2), // the block is reached twice
		num(0), in(api.InStore, 2),
		in(api.InFree, 0), in(api.InDrop),
		in(api.InStr, 4), ret)
	c := codeOf(fun(0,
		in(api.InStr, 3), in(api.InMake, 1), in(api.InStore, 0),
		in(api.InSlot, 0), num(1), num(2), in(api.InBlock, 0, 2), in(api.InCall),
		in(api.InStore, 1), num(9), in(api.InStore, 0), num(9), in(api.InStore, 1), num(0), ret), inner)
	m := load(t, c, 100)
	for i, want := range []int{0,
		2, 4, 4, // a text of a field; a function with it
		4, 4, 4, 7, 7, // a block of two; the call has it as its argument
		7, 7, 7, 7, 7, 7, 10, 7, // a text of two fields; the argument is gone
		7, 7, 3, 3, 0, 0, 0, 0,
	} {
		if n := m.Live(); n != want {
			t.Errorf("after %d: %d cells, want %d", i, n, want)
		}
		m.Go(1)
	}
	if o := m.Tell(); o != (api.Outcome{Kind: api.Done, Steps: 23}) {
		t.Error(o)
	}
}

func TestP13_5Fuel(t *testing.T) {
	c := codeOf(fun(0, in(api.InJump, 0)))
	for fuel, steps := range map[int]int{math.MinInt: 0, -1: 0, 0: 0, 1: 1, 5: 5, api.MaxFuel - 1: api.MaxFuel - 1, api.MaxFuel: api.MaxFuel, api.MaxFuel + 1: api.MaxFuel, math.MaxInt: api.MaxFuel} {
		plays(t, c, 0, fuel, api.Outcome{Kind: api.Going, Steps: steps})
	}
	end := codeOf(fun(0, num(1), num(2), sign("+"), ret))
	for fuel := range 6 {
		want := api.Outcome{Kind: api.Going, Steps: fuel}
		if fuel >= 4 {
			want = api.Outcome{Kind: api.Done, Steps: 4}
		}
		plays(t, end, 0, fuel, want)
	}
}

// A machine that Load did not make does nothing.
func TestP1NoMachine(t *testing.T) {
	var none *Machine
	for _, m := range []*Machine{none, {}} {
		if m.Go(10) != 0 || m.Go(-1) != 0 || m.Live() != 0 || m.Tell() != (api.Outcome{}) {
			t.Errorf("%v", m)
		}
	}
}
