package heap

import (
	"math"
	"testing"

	"mlcore/api"
)

var strange = []int{math.MinInt, math.MinInt + 1, -api.MaxHeap, -2, -1, 0, 1, 2, 3, 5, 8, 13, 40, 1000, 1 << 31, 1 << 32, math.MaxInt - 1, math.MaxInt}

// Addresses of no things, and fields that things do not have, are answered by nothing, and change nothing.
func TestP1HeapAddresses(t *testing.T) {
	h := newHeap(t, 30)
	r := make(holder, 2)
	for range 40 {
		r[0] = made(t, h, api.ObBlock, 11, &r, num(12), num(13))
		r[1] = made(t, h, api.ObExn, 21, &r, r[0])
	}
	addresses := append([]int{}, strange...)
	for a := r[0].N - 40; a < r[0].N+60; a++ {
		addresses = append(addresses, a)
	}
	for _, a := range addresses {
		if a == r[0].N || a == r[1].N {
			continue
		}
		if h.Kind(a) != 0 || h.Tag(a) != 0 || h.Len(a) != 0 {
			continue // one of those that are not reached, which are not gone yet
		}
		for _, i := range strange {
			h.Set(a, i, num(99))
			if c := h.Get(a, i); c != num(0) {
				t.Errorf("field %d at %d: %v", i, a, c)
			}
		}
	}
	for _, i := range strange {
		if i < 0 || i > 1 {
			h.Set(r[0].N, i, num(98))
			if c := h.Get(r[0].N, i); c != num(0) {
				t.Errorf("field %d: %v", i, c)
			}
		}
	}
	has(t, h, r[0], api.ObBlock, 11, num(12), num(13))
	has(t, h, r[1], api.ObExn, 21, r[0])
	if n := h.Collect(r.all); n != 5 {
		t.Error(n)
	}
}

// Roots and fields may hold addresses at which no thing lies, even in the midst of one: what lies there is not made worse by it.
func TestP1HeapStrayCells(t *testing.T) {
	h := newHeap(t, 60)
	r := make(holder, 3)
	for round := range 300 {
		r[0] = made(t, h, api.ObBlock, 1, &r, num(2), num(3))
		r[1] = made(t, h, api.ObCells, 1, &r, num(4), num(5), num(6))
		r[2] = to(r[0].N + round%7)
		h.Set(r[1].N, 0, to(strange[round%len(strange)]))
		h.Set(r[1].N, 1, to(r[0].N-30+round%60))
		n := h.Collect(r.all)
		if n < 7 || n > 60 {
			t.Fatalf("%d cells", n)
		}
		has(t, h, r[0], api.ObBlock, 1, num(2), num(3))
		has(t, h, r[1], api.ObCells, 1, h.Get(r[1].N, 0), h.Get(r[1].N, 1), num(6))
	}
}

func TestP1HeapRoots(t *testing.T) {
	h := newHeap(t, 10)
	r := make(holder, 2)
	r[0] = made(t, h, api.ObBlock, 1, &r, num(2))
	r[1] = made(t, h, api.ObBlock, 3, &r, num(4))
	withNil := func(yield func(*api.Cell) bool) {
		if yield(nil) {
			r.all(yield)
		}
	}
	if n := h.Collect(withNil); n != 4 {
		t.Errorf("a root that is no place: %d cells", n)
	}
	failing := func(yield func(*api.Cell) bool) {
		yield(&r[0])
		panic("no more")
	}
	if n := h.Collect(failing); n != 2 {
		t.Errorf("roots that fail: %d cells", n)
	}
	has(t, h, r[0], api.ObBlock, 1, num(2))
	if a, e := h.Make(api.ObBlock, 0, 9, failing); a != 0 || e != api.ErrMemory {
		t.Errorf("%d %v", a, e)
	}
	has(t, h, r[0], api.ObBlock, 1, num(2))
	reading := func(yield func(*api.Cell) bool) {
		h.Set(r[0].N, 0, h.Get(r[0].N, 0))
		h.Make(api.ObBlock, h.Kind(r[0].N), h.Len(r[0].N), nil)
		r[:1].all(yield)
	}
	for range 20 {
		if n := h.Collect(reading); n != 2 {
			t.Fatalf("%d cells", n)
		}
		has(t, h, r[0], api.ObBlock, 1, num(2))
	}
	if n := h.Collect(nil); n != 0 {
		t.Errorf("no roots: %d cells", n)
	}
	if a, e := h.Make(api.ObBlock, 0, 9, nil); e != api.OK || h.Len(a) != 9 {
		t.Error(e)
	}
}

func TestP1HeapNone(t *testing.T) {
	none, _ := New(-1)
	for _, h := range []*Heap{none, {}} {
		if a, e := h.Make(api.ObBlock, 0, 0, nil); a != 0 || e != api.ErrMemory {
			t.Errorf("%d %v", a, e)
		}
		if a, e := h.Make(-1, 0, 0, nil); a != 0 || e != api.ErrArg {
			t.Errorf("%d %v", a, e)
		}
		h.Set(0, 0, num(1))
		if h.Collect(nil) != 0 || h.Kind(0) != 0 || h.Tag(0) != 0 || h.Len(0) != 0 || h.Get(0, 0) != num(0) {
			t.Error("something lies in no heap")
		}
	}
}
