package machine

import (
	"strings"
	"testing"

	"mlcore/api"
)

// pair is a machine beside one that does the same by another way.
type pair struct {
	*testing.T
	code api.Code
	real *Machine
	slow *slow
}

// alike looks whether both stand the same, with the same values.
func (p *pair) alike() {
	p.Helper()
	if o := p.real.Tell(); o != p.slow.tell {
		p.Fatalf("%s in %d cells: %v, want %v", short(p.code), p.slow.cells, o, p.slow.tell)
	}
	if n, want := p.real.Live(), reached(p.slow.calls); n != want {
		p.Fatalf("%s in %d cells after %d: %d are reached, want %d", short(p.code), p.slow.cells, p.slow.tell.Steps, n, want)
	}
	if len(p.real.calls) != len(p.slow.calls) {
		p.Fatalf("%s: %d calls, want %d", short(p.code), len(p.real.calls), len(p.slow.calls))
	}
	at := map[*item]int{}
	of := map[int]*item{}
	end := len(p.real.values)
	for i := len(p.slow.calls) - 1; i >= 0; i-- {
		c, want := p.real.calls[i], p.slow.calls[i]
		if c.number != want.number || end-c.values != len(want.values) {
			p.Fatalf("%s: call %d: %v, want %v", short(p.code), i, c, want)
		}
		p.same(at, of, c.function, want.function)
		p.same(at, of, c.argument, want.arg)
		for k, v := range want.values {
			p.same(at, of, p.real.values[c.values+k], v)
		}
		end = c.values
	}
}

// same looks whether two values are the same, each thing at one address of its own.
func (p *pair) same(at map[*item]int, of map[int]*item, c api.Cell, v any) {
	x, ok := v.(*item)
	if !ok {
		if c != number(v.(int)) {
			p.Fatalf("%s: %v, want %v", short(p.code), c, v)
		}
		return
	}
	if !c.Ptr {
		p.Fatalf("%s: %v, want a thing %v", short(p.code), c, *x)
	}
	if of[c.N] == x && at[x] == c.N {
		return
	}
	h := p.real.heap
	if of[c.N] != nil || at[x] != 0 || h.Kind(c.N) != x.kind || h.Tag(c.N) != x.tag || h.Len(c.N) != len(x.fields) {
		p.Fatalf("%s: at %d %d %d %d, want %v", short(p.code), c.N, h.Kind(c.N), h.Tag(c.N), h.Len(c.N), *x)
	}
	of[c.N], at[x] = x, c.N
	for i, f := range x.fields {
		p.same(at, of, h.Get(c.N, i), f)
	}
}

// goes lets both go on, now for more and now for less, until they have ended or did so many instructions.
func (m *maker) goes(t *testing.T, c api.Code, cells, most int) api.Outcome {
	p := &pair{t, c, load(t, c, cells), newSlow(c, cells)}
	for p.slow.tell.Steps < most {
		n := m.Intn(30)
		did, want := p.real.Go(n), p.slow.run(n)
		if did != want {
			t.Fatalf("%s in %d cells: Go(%d) did %d, want %d", short(c), cells, n, did, want)
		}
		p.alike()
		if p.slow.tell.Kind != api.Going {
			break
		}
	}
	if p.real.goes() != (p.slow.tell.Kind == api.Going) {
		t.Fatal(p.slow.tell)
	}
	return p.slow.tell
}

// Whatever a code does, and on whatever heap, the machine does it.
func TestP13_3Random(t *testing.T) {
	told, names := map[int]int{}, map[string]int{}
	printed, long := 0, 0
	for seed := range 4000 {
		m, c := program(seed)
		for round := range 4 {
			cells := []int{m.Intn(20), m.Intn(150), 400, 1000}[round]
			d := c
			if round%2 == 1 {
				if e, ok := m.spoilt(c); ok {
					d = e
				}
			}
			o := m.goes(t, d, cells, 300)
			told[o.Kind]++
			names[o.Name]++
			if o.Out != "" {
				printed++
			}
			if o.Steps > 100 {
				long++
			}
		}
	}
	for kind := api.Going; kind <= api.Wrong; kind++ {
		if told[kind] < 500 {
			t.Errorf("kind %d: %d times", kind, told[kind])
		}
	}
	for _, name := range []string{"Match", "Bind", "Overflow", "Div", "Bounds", "Size", "E"} {
		if names[name] < 20 {
			t.Errorf("%s: %d times", name, names[name])
		}
	}
	if printed < 500 || long < 2000 {
		t.Errorf("%d have printed, %d were long", printed, long)
	}
}

// Memory is over just where it has to be: where the cells that are reached and those of a new thing are more than there are.
func TestP13_4Least(t *testing.T) {
	looked := 0
	for seed := range 3000 {
		m, c := program(seed)
		if seed%3 == 0 {
			if d, ok := m.spoilt(c); ok {
				c = d
			}
		}
		free := newSlow(c, api.MaxHeap)
		free.run(200)
		if free.tell.Kind == api.Memory { // too many calls
			continue
		}
		plays(t, c, free.need, 200, free.tell)
		if free.need > 0 {
			o, _ := Play(written(t, c), free.need-1, 200)
			if o.Kind != api.Memory || o.Steps >= free.tell.Steps || !strings.HasPrefix(free.tell.Out, o.Out) {
				t.Errorf("%s in %d cells: %v", short(c), free.need-1, o)
			}
			looked++
		}
	}
	if looked < 1000 {
		t.Error(looked)
	}
}

// What has come to an end, but not as Memory, does so on every greater heap in the same way.
func TestP13_5Greater(t *testing.T) {
	for seed := range 300 {
		_, c := program(seed)
		s := written(t, c)
		var last api.Outcome
		for cells := range 120 {
			o, f := Play(s, cells, 500)
			if f != (api.Fault{}) {
				t.Fatal(f)
			}
			if cells > 0 && last.Kind != api.Memory && o != last || o.Steps < last.Steps || !strings.HasPrefix(o.Out, last.Out) {
				t.Fatalf("%s: %v in %d cells, %v in one more", short(c), last, cells-1, o)
			}
			last = o
		}
		if o, _ := Play(s, api.MaxHeap, 500); last.Kind != api.Memory && o != last {
			t.Fatalf("%s: %v, then %v", short(c), last, o)
		}
	}
}

// How the instructions are shared out does not matter, nor does what is asked in between.
func TestP13_2Shares(t *testing.T) {
	for seed := range 500 {
		r, c := program(seed)
		cells := r.Intn(100)
		want, _ := Play(written(t, c), cells, 400)
		m := load(t, c, cells)
		for did := 0; did < 400; {
			n := r.Intn(400 - did + 1)
			got := m.Go(n)
			did += got
			if r.Intn(2) == 0 {
				m.Live()
			}
			if got < n {
				break
			}
		}
		if o := m.Tell(); o != want {
			t.Errorf("%s in %d cells: %v, want %v", short(c), cells, o, want)
		}
	}
}

// What is answered hangs on the arguments alone.
func TestP1MachineAgain(t *testing.T) {
	for seed := range 200 {
		m, c := program(seed)
		s, cells := written(t, c), m.Intn(200)
		first, _ := Play(s, cells, 1000)
		other := load(t, c, 50)
		other.Go(100)
		for range 3 {
			if o, _ := Play(s, cells, 1000); o != first {
				t.Fatalf("%s: %v, then %v", short(c), first, o)
			}
		}
	}
}
