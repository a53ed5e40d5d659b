package machine

import (
	"fmt"
	"slices"
	"strconv"
	"strings"
	"testing"

	"mlcore/api"
	"mlcore/code"
)

// in is an instruction with its operands.
func in(op int, operands ...int) api.Ins {
	x := api.Ins{Op: op}
	for i, n := range operands {
		*[]*int{&x.A, &x.B}[i] = n
	}
	return x
}

func num(n int) api.Ins { return in(api.InInt, n) }

// sign and base are by their names, so that the numbers of P12.4 are held to.
func sign(name string) api.Ins {
	list := code.Signs()
	return in(api.InSign, slices.Index(list[:], name))
}

func base(name string) api.Ins {
	list := code.Bases()
	return in(api.InBase, slices.Index(list[:], name))
}

var ret = in(api.InReturn)

// join puts lists of instructions one behind the other.
func join(lists ...[]api.Ins) []api.Ins { return slices.Concat(lists...) }

func ins(list ...api.Ins) []api.Ins { return list }

func times(n int, list ...api.Ins) []api.Ins { return slices.Repeat(list, n) }

// fun is a function that has caught so much, with three slots.
func fun(free int, list ...api.Ins) api.CodeFun {
	return api.CodeFun{Free: free, Slots: 3, Ins: list}
}

// texts of all codes here: the empty one, two short ones, one of a field, one of a field and a byte, the longest.
func texts() []string {
	return []string{"", "a", "bc", "12345678", "123456789", strings.Repeat("x", api.MaxStr), "E", "\xff\x00\x80zzzzz\xfe"}
}

func codeOf(funs ...api.CodeFun) api.Code { return api.Code{Texts: texts(), Funs: funs} }

func short(c api.Code) string { return fmt.Sprintf("%.600s", fmt.Sprint(c.Funs)) }

// written is the bytes of a code that can be run.
func written(t *testing.T, c api.Code) string {
	t.Helper()
	s, e := code.Encode(c)
	if f := code.Check(c); e != api.OK || f != (api.Fault{}) {
		t.Fatalf("%s: %v %v", short(c), e, f)
	}
	return s
}

func load(t *testing.T, c api.Code, cells int) *Machine {
	t.Helper()
	m, f := Load(written(t, c), cells)
	if m == nil || f != (api.Fault{}) {
		t.Fatalf("%s: %v %v", short(c), m, f)
	}
	return m
}

// plays holds the outcome of a code to what it should be.
func plays(t *testing.T, c api.Code, cells, fuel int, want api.Outcome) {
	t.Helper()
	if o, f := Play(written(t, c), cells, fuel); o != want || f != (api.Fault{}) {
		t.Errorf("%s in %d cells: %v %v, want %v", short(c), cells, o, f, want)
	}
}

// comes does instructions, and holds the value on top to how it should be shown; or, if the machine has ended, its
// kind ("Wrong", "Memory") or the name of what was raised.
func comes(t *testing.T, want string, list ...api.Ins) {
	t.Helper()
	comesBeside(t, nil, want, list...)
}

// comesBeside is the same, with other functions, from 1 on.
func comesBeside(t *testing.T, funs []api.CodeFun, want string, list ...api.Ins) {
	t.Helper()
	end := len(list)
	if list[end-1].Op != api.InRaise {
		list = append(slices.Clone(list), ret)
	}
	m := load(t, codeOf(append([]api.CodeFun{fun(0, list...)}, funs...)...), 20000)
	for range 10000 {
		if m.kind != api.Going || len(m.calls) == 1 && m.calls[0].at == end {
			break
		}
		m.Go(1)
	}
	if got := m.ending(); got != want {
		t.Errorf("%s: %s, want %s", short(api.Code{Funs: []api.CodeFun{{Ins: list}}}), got, want)
	}
}

func (m *Machine) ending() string {
	switch m.kind {
	case api.Going:
		return m.show(m.top(0))
	case api.Raised:
		return m.name
	}
	return []string{"", "Done", "", "Memory", "Wrong"}[m.kind]
}

// show shows a value: its kind, its tag, its fields.
func (m *Machine) show(v api.Cell) string {
	if !v.Ptr {
		return strconv.Itoa(v.N)
	}
	h := m.heap
	if h.Kind(v.N) == api.ObText {
		if h.Len(v.N) != (h.Tag(v.N)+7)/8 {
			return "a text of " + strconv.Itoa(h.Len(v.N)) + " fields"
		}
		return strconv.Quote(m.bytesOf(v))
	}
	s := []string{}
	for i := range h.Len(v.N) {
		s = append(s, m.show(h.Get(v.N, i)))
	}
	return []string{"block", "fun", "", "cells", "exn"}[h.Kind(v.N)] + strconv.Itoa(h.Tag(v.N)) + "(" + strings.Join(s, " ") + ")"
}
