package heap

import (
	"testing"

	"mlcore/api"
)

// holder holds cells of a heap, and ranges over them.
type holder []api.Cell

func (r holder) all(yield func(*api.Cell) bool) {
	for i := range r {
		if !yield(&r[i]) {
			return
		}
	}
}

func to(a int) api.Cell  { return api.Cell{Ptr: true, N: a} }
func num(n int) api.Cell { return api.Cell{N: n} }

func newHeap(t *testing.T, cells int) *Heap {
	t.Helper()
	h, e := New(cells)
	if h == nil || e != api.OK {
		t.Fatalf("New(%d): %v", cells, e)
	}
	return h
}

// made makes a thing with these fields. They are among the roots until it is there.
func made(t *testing.T, h *Heap, kind, tag int, r *holder, fields ...api.Cell) api.Cell {
	t.Helper()
	*r = append(*r, fields...)
	a, e := h.Make(kind, tag, len(fields), r.all)
	if e != api.OK {
		t.Fatalf("a thing of %d fields: %v", len(fields), e)
	}
	from := len(*r) - len(fields)
	for i, c := range (*r)[from:] {
		h.Set(a, i, c)
	}
	*r = (*r)[:from]
	return to(a)
}

// has looks whether a thing is as said.
func has(t *testing.T, h *Heap, c api.Cell, kind, tag int, fields ...api.Cell) {
	t.Helper()
	if !c.Ptr || h.Kind(c.N) != kind || h.Tag(c.N) != tag || h.Len(c.N) != len(fields) {
		t.Fatalf("%v: kind %d, tag %d, %d fields, want %d, %d, %d", c, h.Kind(c.N), h.Tag(c.N), h.Len(c.N), kind, tag, len(fields))
	}
	for i, want := range fields {
		if got := h.Get(c.N, i); got != want {
			t.Fatalf("field %d: %v, want %v", i, got, want)
		}
	}
}
