package heap

import (
	"math/rand"
	"testing"

	"mlcore/api"
)

// thing is a thing as it should be: the things of Go itself, of which none is given up.
type thing struct {
	kind, tag int
	fields    []value
}

// value is a number, or refers to a thing.
type value struct {
	n  int
	to *thing
}

// pair is a heap beside what should be in it.
type pair struct {
	*testing.T
	*rand.Rand
	cells int
	heap  *Heap
	real  holder
	meant []value
}

// reached is how many cells the things take that are reached.
func (p *pair) reached() int {
	seen, cells := map[*thing]bool{}, 0
	work := append([]value{}, p.meant...)
	for len(work) > 0 {
		v := work[len(work)-1]
		work = work[:len(work)-1]
		if v.to != nil && !seen[v.to] {
			seen[v.to] = true
			cells += 1 + len(v.to.fields)
			work = append(work, v.to.fields...)
		}
	}
	return cells
}

// alike looks whether the heap has what it should: each thing at one address, and each at one of its own.
func (p *pair) alike() {
	at, of := map[*thing]int{}, map[int]*thing{}
	var work []*thing
	cell := func(v value, c api.Cell) {
		switch {
		case v.to == nil && c != num(v.n), v.to != nil && !c.Ptr:
			p.Fatalf("%v, want %v", c, v)
		case v.to == nil:
		case at[v.to] == 0 && of[c.N] == nil:
			at[v.to], of[c.N] = c.N, v.to
			work = append(work, v.to)
		case of[c.N] != v.to:
			p.Fatalf("two things at %d", c.N)
		}
	}
	for i, v := range p.meant {
		cell(v, p.real[i])
	}
	for len(work) > 0 {
		o := work[0]
		work = work[1:]
		a := at[o]
		if p.heap.Kind(a) != o.kind || p.heap.Tag(a) != o.tag || p.heap.Len(a) != len(o.fields) {
			p.Fatalf("at %d: %d %d %d, want %v", a, p.heap.Kind(a), p.heap.Tag(a), p.heap.Len(a), o)
		}
		for i, v := range o.fields {
			cell(v, p.heap.Get(a, i))
		}
	}
}

func (p *pair) do() {
	i, k := p.Intn(len(p.meant)), p.Intn(len(p.meant))
	o, a := p.meant[i].to, p.real[i].N
	switch p.Intn(7) {
	case 0, 1:
		p.make(i)
	case 2:
		want := p.reached()
		if n := p.heap.Collect(p.real.all); n != want {
			p.Fatalf("%d cells, want %d", n, want)
		}
	case 3:
		n := p.Intn(2 * p.cells) // it may be what an address is, too
		p.meant[i], p.real[i] = value{n: n}, num(n)
	case 4:
		p.meant[i], p.real[i] = p.meant[k], p.real[k]
	case 5:
		if o != nil && len(o.fields) > 0 {
			f := p.Intn(len(o.fields))
			o.fields[f] = p.meant[k]
			p.heap.Set(a, f, p.real[k])
		}
	case 6:
		if o != nil && len(o.fields) > 0 {
			f := p.Intn(len(o.fields))
			p.meant[k], p.real[k] = o.fields[f], p.heap.Get(a, f)
		}
	}
}

// make makes a thing, which a root refers to then, or none.
func (p *pair) make(i int) {
	o := &thing{kind: p.Intn(5), tag: p.Intn(65536), fields: make([]value, p.Intn(5))}
	if p.Intn(10) == 0 {
		o.fields = make([]value, p.Intn(p.cells+2))
	}
	cells := p.reached()
	a, e := p.heap.Make(o.kind, o.tag, len(o.fields), p.real.all)
	if cells+1+len(o.fields) > p.cells {
		if a != 0 || e != api.ErrMemory {
			p.Fatalf("%d of %d cells are taken, one of %d fields: %d %v", cells, p.cells, len(o.fields), a, e)
		}
		return
	}
	if e != api.OK {
		p.Fatalf("%d of %d cells are taken, one of %d fields: %v", cells, p.cells, len(o.fields), e)
	}
	if p.Intn(4) > 0 {
		p.meant[i], p.real[i] = value{to: o}, to(a)
	}
}

// Whatever is done, the heap has what it should, and no more and no less room.
func TestP11_1Model(t *testing.T) {
	for seed := range 400 {
		r := rand.New(rand.NewSource(int64(seed)))
		p := &pair{T: t, Rand: r, cells: 1 + r.Intn(60)}
		if seed%20 == 0 {
			p.cells = 1000
		}
		p.heap = newHeap(t, p.cells)
		p.meant = make([]value, 1+r.Intn(6))
		p.real = make(holder, len(p.meant))
		for range 400 {
			p.do()
			p.alike()
		}
	}
}

// What a heap answers hangs on what was done with it alone.
func TestP1HeapAgain(t *testing.T) {
	var first []api.Cell
	for i := range 3 {
		other := newHeap(t, 20)
		p := &pair{T: t, Rand: rand.New(rand.NewSource(7)), cells: 50, heap: newHeap(t, 50), real: make(holder, 5), meant: make([]value, 5)}
		var told []api.Cell
		for range 2000 {
			p.do()
			other.Make(api.ObBlock, 0, 3, nil)
			told = append(told, p.real...)
		}
		if i == 0 {
			first = told
		}
		for k, c := range told {
			if c != first[k] {
				t.Fatalf("%v, then %v", first[k], c)
			}
		}
	}
}
