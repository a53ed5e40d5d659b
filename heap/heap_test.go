package heap

import (
	"math"
	"runtime"
	"testing"

	"mlcore/api"
)

func TestP11_1New(t *testing.T) {
	for _, cells := range []int{math.MinInt, -api.MaxHeap, -1, api.MaxHeap + 1, math.MaxInt} {
		if h, e := New(cells); h != nil || e != api.ErrArg {
			t.Errorf("New(%d): %v, %v", cells, h, e)
		}
	}
	for _, cells := range []int{0, 1, 2, api.MaxHeap - 1, api.MaxHeap} {
		newHeap(t, cells)
	}
}

// A thing of n fields takes n + 1 cells, and there are as many as New was told.
func TestP11_1Cells(t *testing.T) {
	for cells := range 30 {
		for n := range 8 {
			h := newHeap(t, cells)
			var r holder
			for {
				a, e := h.Make(api.ObBlock, 0, n, r.all)
				if e == api.ErrMemory && a == 0 {
					break
				}
				if e != api.OK {
					t.Fatal(e)
				}
				r = append(r, to(a))
			}
			if len(r) != cells/(n+1) {
				t.Errorf("%d cells have %d things of %d fields", cells, len(r), n)
			}
			if got := h.Collect(r.all); got != len(r)*(n+1) {
				t.Errorf("%d things of %d fields take %d cells", len(r), n, got)
			}
		}
	}
}

func TestP11_1GreatestThing(t *testing.T) {
	h := newHeap(t, api.MaxHeap)
	var r holder
	const n = api.MaxHeap - 1
	a, e := h.Make(api.ObCells, 1, n, r.all)
	if e != api.OK || h.Len(a) != n {
		t.Fatal(e)
	}
	h.Set(a, n-1, to(a))
	r = append(r, to(a))
	if got := h.Collect(r.all); got != api.MaxHeap {
		t.Error(got)
	}
	if h.Len(r[0].N) != n || h.Get(r[0].N, n-1) != r[0] || h.Get(r[0].N, 0) != num(0) {
		t.Error("not what was there")
	}
	if a, e := h.Make(api.ObBlock, 0, 0, r.all); a != 0 || e != api.ErrMemory {
		t.Error(e)
	}
}

// What two roots or fields refer to is one thing, wherever it is moved to, and circles stay circles.
func TestP11_1Shared(t *testing.T) {
	h := newHeap(t, 100)
	r := make(holder, 3)
	r[0] = made(t, h, api.ObText, 7, &r, num(5))
	r[1] = made(t, h, api.ObFun, 8, &r, r[0], num(6), r[0])
	r[2] = made(t, h, api.ObExn, 1, &r, num(0), r[1])
	h.Set(r[2].N, 0, r[2])
	h.Set(r[0].N, 0, r[2])
	for range 5 {
		made(t, h, api.ObBlock, 0, &r, r[0], r[1])
		if n := h.Collect(r.all); n != 2+4+3 {
			t.Fatalf("%d cells", n)
		}
		has(t, h, r[0], api.ObText, 7, r[2])
		has(t, h, r[1], api.ObFun, 8, r[0], num(6), r[0])
		has(t, h, r[2], api.ObExn, 1, r[2], r[1])
	}
	r[0], r[2] = api.Cell{}, api.Cell{}
	if n := h.Collect(r.all); n != 2+4+3 {
		t.Errorf("by way of one: %d cells", n)
	}
	first := h.Get(r[1].N, 0)
	has(t, h, h.Get(first.N, 0), api.ObExn, 1, h.Get(first.N, 0), r[1])
	r[1] = num(r[1].N)
	if n := h.Collect(r.all); n != 0 {
		t.Errorf("a circle that is let go: %d cells", n)
	}
}

// A number is no address, whatever it is: it refers to nothing, and stays as it is.
func TestP11_1Numbers(t *testing.T) {
	h := newHeap(t, 20)
	r := make(holder, 2)
	made(t, h, api.ObBlock, 3, &r, num(1), num(2))
	r[0] = made(t, h, api.ObBlock, 4, &r, num(0), num(0), num(0))
	for a := -30; a < 60; a++ {
		r[1] = num(a)
		for i := range 3 {
			h.Set(r[0].N, i, num(a+i))
		}
		if n := h.Collect(r.all); n != 4 || r[1] != num(a) {
			t.Fatalf("%d: %d cells, %v", a, n, r[1])
		}
		has(t, h, r[0], api.ObBlock, 4, num(a), num(a+1), num(a+2))
	}
}

// A root is a place for as long as it is told of: it may be told of twice, and it may be a copy that is put back.
func TestP11_1Places(t *testing.T) {
	h := newHeap(t, 30)
	r := make(holder, 2)
	r[0] = made(t, h, api.ObBlock, 1, &r, num(1))
	r[1] = made(t, h, api.ObBlock, 2, &r, r[0], num(2))
	twice := func(yield func(*api.Cell) bool) {
		for range 2 {
			r.all(yield)
		}
	}
	copies := func(yield func(*api.Cell) bool) {
		var c api.Cell
		for i := range r {
			c = r[i]
			goOn := yield(&c)
			r[i] = c
			if !goOn {
				return
			}
		}
	}
	for i, roots := range []func(func(*api.Cell) bool){twice, copies, twice, copies} {
		made(t, h, api.ObBlock, 3, &r)
		r[0] = made(t, h, api.ObBlock, 1, &r, num(1)) // behind what is let go: it has to move
		h.Set(r[1].N, 0, r[0])
		if n := h.Collect(roots); n != 5 {
			t.Errorf("%d: %d cells", i, n)
		}
		for range 20 {
			if _, e := h.Make(api.ObFun, 9, 3, roots); e != api.OK {
				t.Fatal(e)
			}
		}
		has(t, h, r[0], api.ObBlock, 1, num(1))
		has(t, h, r[1], api.ObBlock, 2, r[0], num(2))
	}
}

// A list as long as the heap is moved as it is, from its first thing on, and from its last.
func TestP11_1Long(t *testing.T) {
	h := newHeap(t, api.MaxHeap)
	r := make(holder, 1)
	n := 0
	for ; ; n++ {
		a, e := h.Make(api.ObBlock, n%65536, 2, r.all)
		if e != api.OK {
			break
		}
		h.Set(a, 0, num(n))
		h.Set(a, 1, r[0])
		r[0] = to(a)
	}
	if n != api.MaxHeap/3 {
		t.Fatalf("%d things", n)
	}
	if got := h.Collect(r.all); got != 3*n {
		t.Fatalf("%d cells", got)
	}
	c := r[0]
	for i := n - 1; i >= 0; i-- {
		if !c.Ptr || h.Get(c.N, 0) != num(i) || h.Tag(c.N) != i%65536 {
			t.Fatalf("thing %d: %v", i, h.Get(c.N, 0))
		}
		c = h.Get(c.N, 1)
	}
	if c != num(0) {
		t.Error(c)
	}
	for r[0].Ptr {
		r[0] = h.Get(r[0].N, 1)
	}
	if got := h.Collect(r.all); got != 0 {
		t.Errorf("%d cells", got)
	}
}

func TestP11_2Arguments(t *testing.T) {
	h := newHeap(t, 10)
	r := make(holder, 1)
	r[0] = made(t, h, api.ObBlock, 1, &r, num(4), num(5))
	made(t, h, api.ObBlock, 2, &r, num(6))
	before := r[0]
	for _, a := range [][3]int{
		{-1, 0, 0}, {5, 0, 0}, {math.MinInt, 0, 0}, {math.MaxInt, 0, 0}, {256, 0, 0}, {1 << 32, 0, 0},
		{0, -1, 0}, {0, 65536, 0}, {0, math.MinInt, 0}, {0, math.MaxInt, 0}, {4, 1 << 32, 0},
		{0, 0, -1}, {0, 0, api.MaxHeap + 1}, {0, 0, math.MinInt}, {0, 0, math.MaxInt}, {5, 65536, -1}, {0, 65536, api.MaxHeap},
	} {
		asked := func(yield func(*api.Cell) bool) { t.Errorf("%v: the roots were asked for", a) }
		if got, e := h.Make(a[0], a[1], a[2], asked); got != 0 || e != api.ErrArg {
			t.Errorf("%v: %d %v", a, got, e)
		}
	}
	if r[0] != before {
		t.Error("something moved")
	}
	has(t, h, r[0], api.ObBlock, 1, num(4), num(5))
	for _, kind := range []int{api.ObBlock, api.ObFun, api.ObText, api.ObCells, api.ObExn} {
		for _, tag := range []int{0, 1, 255, 256, 32768, 65535} {
			has(t, h, made(t, h, kind, tag, &r), kind, tag)
		}
	}
	has(t, h, r[0], api.ObBlock, 1, num(4), num(5))
	if a, e := h.Make(api.ObBlock, 0, api.MaxHeap, r.all); a != 0 || e != api.ErrMemory {
		t.Errorf("%d %v", a, e)
	}
}

// What is refused is just what does not go beside what is reached; what is not reached is looked for first.
func TestP11_2Memory(t *testing.T) {
	for live := range 12 {
		for waste := range 12 {
			for n := range 14 {
				h := newHeap(t, 14)
				var r holder
				for range live {
					r = append(r, made(t, h, api.ObBlock, 9, &r))
				}
				for range min(waste, 14-live) {
					made(t, h, api.ObBlock, 0, &r)
				}
				a, e := h.Make(api.ObText, 3, n, r.all)
				if live+n+1 > 14 && (a != 0 || e != api.ErrMemory) || live+n+1 <= 14 && e != api.OK {
					t.Errorf("%d reached, %d not, a thing of %d fields: %d %v", live, waste, n, a, e)
				}
				for _, c := range r {
					has(t, h, c, api.ObBlock, 9)
				}
			}
		}
	}
}

// A heap that had no room has as much as was let go behind it.
func TestP11_2Again(t *testing.T) {
	h := newHeap(t, 9)
	r := make(holder, 3)
	for i := range r {
		r[i] = made(t, h, api.ObBlock, i, &r, num(i), num(i))
	}
	for i := range 50 {
		for range 2 {
			if a, e := h.Make(api.ObBlock, 0, i%3, r.all); a != 0 || e != api.ErrMemory {
				t.Fatalf("%d: %v", a, e)
			}
		}
		r[i%3] = num(0)
		if a, e := h.Make(api.ObBlock, 0, 3, r.all); a != 0 || e != api.ErrMemory {
			t.Fatalf("%d: %v", a, e)
		}
		r[i%3] = made(t, h, api.ObBlock, i+3, &r, num(i+3), num(i+3))
		for k := range 3 {
			n := i + 1 + k
			has(t, h, r[n%3], api.ObBlock, n, num(n), num(n))
		}
	}
}

// The fields of a new thing are the number 0, whatever was in these cells ahead of it.
func TestP11_2Fields(t *testing.T) {
	h := newHeap(t, 50)
	r := make(holder, 1)
	for i := range 200 {
		n := i % 20
		a, e := h.Make(api.ObCells, i, n, r.all)
		if e != api.OK {
			t.Fatal(e)
		}
		for k := range n {
			if c := h.Get(a, k); c != num(0) {
				t.Fatalf("round %d, field %d: %v", i, k, c)
			}
			h.Set(a, k, to(a))
		}
		r[0] = to(a)
	}
}

func TestP11_3Fields(t *testing.T) {
	h := newHeap(t, 40)
	r := make(holder, 2)
	r[0] = made(t, h, api.ObBlock, 1, &r, num(0), num(0), num(0))
	r[1] = made(t, h, api.ObText, 65535, &r, num(7), num(8))
	before := [2]api.Cell{r[0], r[1]}
	for _, n := range []int{0, 1, -1, math.MaxInt, math.MinInt, 1 << 40, -1 << 40, r[0].N, r[1].N} {
		for _, c := range []api.Cell{num(n), r[0], r[1]} {
			h.Set(r[0].N, 1, c)
			has(t, h, r[0], api.ObBlock, 1, num(0), c, num(0))
			has(t, h, r[1], api.ObText, 65535, num(7), num(8))
			h.Set(r[0].N, 1, num(n))
			has(t, h, r[0], api.ObBlock, 1, num(0), num(n), num(0))
		}
		if r[0] != before[0] || r[1] != before[1] {
			t.Fatal("something moved")
		}
		h.Collect(r.all)
		has(t, h, r[0], api.ObBlock, 1, num(0), num(n), num(0))
		before = [2]api.Cell{r[0], r[1]}
	}
	h.Set(r[0].N, 0, r[1])
	h.Set(r[0].N, 2, r[0])
	has(t, h, r[0], api.ObBlock, 1, r[1], h.Get(r[0].N, 1), r[0])
}

func TestP11_4Collect(t *testing.T) {
	h := newHeap(t, 100)
	r := make(holder, 4)
	count := func(want int) {
		t.Helper()
		for range 2 {
			if n := h.Collect(r.all); n != want {
				t.Fatalf("%d cells, want %d", n, want)
			}
		}
	}
	count(0)
	made(t, h, api.ObBlock, 0, &r, num(1))
	count(0)
	r[0] = made(t, h, api.ObBlock, 0, &r)
	count(1)
	r[1] = made(t, h, api.ObBlock, 0, &r, r[0], r[0])
	count(4)
	r[2], r[3] = r[1], r[0]
	count(4)
	r[0], r[1], r[3] = num(0), num(0), num(0)
	count(4)
	h.Set(r[2].N, 0, num(0))
	count(4)
	h.Set(r[2].N, 1, r[2])
	count(3)
	r[2] = num(0)
	count(0)
	if a, e := h.Make(api.ObBlock, 0, 99, r.all); e != api.OK || h.Len(a) != 99 {
		t.Errorf("all is free again: %v", e)
	}
}

// A heap's cells are not there until they are used, and what is given up is let go.
func TestP1HeapMemory(t *testing.T) {
	var before, after runtime.MemStats
	heaps := make([]*Heap, 1000)
	runtime.ReadMemStats(&before)
	for i := range heaps {
		heaps[i] = newHeap(t, api.MaxHeap)
		if _, e := heaps[i].Make(api.ObBlock, 0, 2, nil); e != api.OK {
			t.Fatal(e)
		}
		heaps[i].Collect(nil)
	}
	runtime.ReadMemStats(&after)
	if n := after.TotalAlloc - before.TotalAlloc; n > 1000*2000 {
		t.Errorf("%d bytes for %d heaps", n, len(heaps))
	}
	runtime.KeepAlive(heaps)
}

// While there is room nothing is looked for: many small things beside many that stay.
func TestP1HeapTime(t *testing.T) {
	h := newHeap(t, api.MaxHeap)
	r := make(holder, 1)
	for range 100000 {
		r[0] = made(t, h, api.ObBlock, 0, &r, r[0])
	}
	for i := range 2000000 {
		if _, e := h.Make(api.ObBlock, 0, i%5, r.all); e != api.OK {
			t.Fatal(e)
		}
	}
	if n := h.Collect(r.all); n != 200000 {
		t.Error(n)
	}
}
