package machine

import (
	"fmt"
	"strings"
	"testing"

	"mlcore/api"
)

func TestP13_3Numbers(t *testing.T) {
	const max = api.MaxInt
	for _, r := range []struct {
		a    int
		sign string
		b    int
		want string
	}{
		{2, "+", 3, "5"}, {2, "-", 3, "-1"}, {-2, "*", 3, "-6"}, {7, "/", 2, "3"}, {-7, "/", 2, "-3"}, {7, "/", -2, "-3"}, {-7, "/", -2, "3"},
		{7, "%", 2, "1"}, {-7, "%", 2, "-1"}, {7, "%", -2, "1"}, {-7, "%", -2, "-1"}, {6, "%", 3, "0"},
		{max, "+", 0, "1000000000"}, {max, "+", 1, "Overflow"}, {max, "-", -1, "Overflow"}, {-max, "-", 1, "Overflow"}, {-max, "+", -1, "Overflow"}, {-max, "+", 0, "-1000000000"}, {max, "+", max, "Overflow"}, {-max, "-", max, "Overflow"},
		{max, "*", max, "Overflow"}, {max, "*", -max, "Overflow"}, {-max, "*", -max, "Overflow"}, {max, "*", -1, "-1000000000"}, {31623, "*", 31623, "Overflow"}, {31622, "*", 31622, "999950884"}, {50000, "*", -20000, "-1000000000"}, {0, "*", max, "0"},
		{1, "/", 0, "Div"}, {0, "/", 0, "Div"}, {1, "%", 0, "Div"}, {-max, "/", -1, "1000000000"}, {-max, "%", -1, "0"}, {0, "/", 5, "0"}, {max, "%", max, "0"},
		{1, "<", 2, "1"}, {2, "<", 2, "0"}, {3, "<", 2, "0"}, {1, "<=", 2, "1"}, {2, "<=", 2, "1"}, {3, "<=", 2, "0"}, {1, ">", 2, "0"}, {2, ">", 2, "0"}, {3, ">", 2, "1"}, {1, ">=", 2, "0"}, {2, ">=", 2, "1"}, {3, ">=", 2, "1"}, {-3, "<", 2, "1"}, {-max, "<", max, "1"},
		{2, "=", 2, "1"}, {2, "=", -2, "0"}, {2, "<>", 2, "0"}, {2, "<>", 3, "1"},
	} {
		comes(t, r.want, num(r.a), num(r.b), sign(r.sign))
	}
	for n, want := range map[int]string{0: "0", 5: "-5", -5: "5", max: "-1000000000", -max: "1000000000"} {
		comes(t, want, num(n), sign("~"))
	}
}

// Signs take what they ask for, and nothing else.
func TestP13_3SignsWrong(t *testing.T) {
	for _, v := range samples() {
		isNumber := v.is[len(v.is)-1] != ')' && v.is[0] != '"'
		for _, s := range []string{"+", "-", "*", "/", "%", "<", "<=", ">", ">="} {
			if !isNumber {
				comesTo(t, "Wrong", v.list, ins(num(1), sign(s)))
				comesTo(t, "Wrong", ins(num(1)), v.list, ins(sign(s)))
				comesTo(t, "Wrong", v.list, ins(num(0), sign(s)))
			}
		}
		if !isNumber {
			comesTo(t, "Wrong", v.list, ins(sign("~")))
		}
		if v.is[0] != '"' {
			comesTo(t, "Wrong", v.list, ins(in(api.InStr, 1), sign("^")))
			comesTo(t, "Wrong", v.list, ins(in(api.InStr, 5), sign("^")))
			comesTo(t, "Wrong", ins(in(api.InStr, 1)), v.list, ins(sign("^")))
		}
		if v.is != "cells0(8)" {
			comesTo(t, "Wrong", v.list, ins(sign("!")))
			comesTo(t, "Wrong", v.list, ins(num(1), sign(":=")))
		}
	}
}

func TestP13_3Join(t *testing.T) {
	list := texts()
	for i, a := range list {
		for k, b := range list {
			want := fmt.Sprintf("%q", a+b)
			if len(a+b) > api.MaxStr {
				want = "Size"
			}
			comes(t, want, in(api.InStr, i), in(api.InStr, k), sign("^"))
		}
	}
	// 199 and 1 bytes, 199 and 2
	part := tuple(ins(in(api.InStr, 5)), ins(num(0)), ins(num(api.MaxStr-1)))
	comesTo(t, `"`+strings.Repeat("x", api.MaxStr-1)+`a"`, calls("part", part...), ins(in(api.InStr, 1), sign("^")))
	comesTo(t, "Size", calls("part", part...), ins(in(api.InStr, 2), sign("^")))
}

func TestP13_3References(t *testing.T) {
	ref := calls("ref", num(8))
	for _, v := range samples() {
		comesTo(t, "0", ref, v.list, ins(sign(":=")))
		comesTo(t, "block0(cells0("+v.is+") "+v.is+")", ref, ins(in(api.InStore, 0), in(api.InSlot, 0), in(api.InSlot, 0)), v.list, ins(sign(":="), in(api.InDrop), in(api.InSlot, 0), sign("!"), in(api.InBlock, 0, 2)))
	}
	// One that holds itself.
	comesTo(t, "1", ref, ins(in(api.InStore, 0), in(api.InSlot, 0), in(api.InSlot, 0), sign(":="), in(api.InDrop), in(api.InSlot, 0), sign("!"), in(api.InSlot, 0), in(api.InSame)))
}

// compares holds = and <> of two values to what they should say: "1", "0" or "Size".
func compares(t *testing.T, want string, a, b []api.Ins) {
	t.Helper()
	other := map[string]string{"0": "1", "1": "0", "Size": "Size"}[want]
	comesTo(t, want, a, b, ins(sign("=")))
	comesTo(t, other, a, b, ins(sign("<>")))
}

func TestP13_3Compare(t *testing.T) {
	for i, v := range samples() {
		for k, w := range samples() {
			want := "0"
			if i == k && v.is[0] != 'f' && v.is[0] != 'c' && v.is[0] != 'e' {
				want = "1"
			}
			compares(t, want, v.list, w.list)
			compares(t, want, tuple(ins(num(1)), v.list), tuple(ins(num(1)), w.list))
			compares(t, "0", tuple(v.list, ins(num(1))), tuple(w.list, ins(num(2))))
			compares(t, "0", tuple(v.list), w.list)
		}
		compares(t, "1", join(v.list, ins(in(api.InStore, 0), in(api.InSlot, 0))), ins(in(api.InSlot, 0)))
		compares(t, "1", join(v.list, ins(in(api.InStore, 0), in(api.InSlot, 0), in(api.InBlock, 2, 1))), ins(in(api.InSlot, 0), in(api.InBlock, 2, 1)))
	}
	text := func(n int) []api.Ins { return ins(in(api.InStr, n)) }
	for i := range texts() {
		for k := range texts() {
			want := "0"
			if i == k {
				want = "1"
			}
			compares(t, want, text(i), text(k))
		}
	}
	// A text's missing bytes are no bytes.
	compares(t, "0", text(0), calls("chr", num(0)))
	compares(t, "0", text(1), join(text(1), calls("chr", num(0)), ins(sign("^"))))
	compares(t, "1", calls("chr", num('a')), text(1))
	// Tags, numbers of fields.
	two := ins(num(1), num(2))
	compares(t, "0", append(two, in(api.InBlock, 0, 2)), append(two, in(api.InBlock, 1, 2)))
	compares(t, "0", append(two, in(api.InBlock, 0, 2)), ins(num(1), num(2), num(3), in(api.InBlock, 0, 3)))
	compares(t, "0", ins(num(1), num(2), num(3), in(api.InBlock, 0, 3)), append(two, in(api.InBlock, 0, 2)))
}

// wideTuple is a block of n numbers, of which one is another.
func wideTuple(n, other int) []api.Ins {
	list := times(n, num(3))
	if other >= 0 {
		list[other] = num(4)
	}
	return append(list, in(api.InBlock, 0, n))
}

// chain is blocks within one another, n of them, the innermost with a number.
func chain(n, tag, inner int) []api.Ins {
	return join(ins(num(inner), in(api.InBlock, tag, 1)), times(n-1, in(api.InBlock, 0, 1)))
}

func TestP13_3MaxSame(t *testing.T) {
	const max = api.MaxSame
	// The blocks are a pair, each two fields another.
	compares(t, "1", wideTuple(max-1, -1), wideTuple(max-1, -1))
	compares(t, "Size", wideTuple(max, -1), wideTuple(max, -1))
	compares(t, "0", wideTuple(max, -1), wideTuple(max, 0))
	compares(t, "0", wideTuple(max, -1), wideTuple(max, max-2))
	compares(t, "Size", wideTuple(max, -1), wideTuple(max, max-1))
	compares(t, "0", wideTuple(2000, -1), wideTuple(1999, -1))
	compares(t, "1", chain(max-1, 0, 5), chain(max-1, 0, 5))
	compares(t, "Size", chain(max, 0, 5), chain(max, 0, 5))
	compares(t, "0", chain(max-1, 0, 5), chain(max-1, 0, 6))
	compares(t, "Size", chain(max, 0, 5), chain(max, 0, 6))
	compares(t, "0", chain(max, 0, 5), chain(max, 1, 5))
	// The same thing is looked through like any other.
	same := func(list []api.Ins) ([]api.Ins, []api.Ins) {
		return append(list, in(api.InStore, 0), in(api.InSlot, 0)), ins(in(api.InSlot, 0))
	}
	a, b := same(wideTuple(max-1, -1))
	compares(t, "1", a, b)
	a, b = same(wideTuple(max, -1))
	compares(t, "Size", a, b)
	// From the left, what is within first: of 600 and 600, the second differs at once.
	both := func(first, second []api.Ins) []api.Ins { return tuple(first, second) }
	compares(t, "0", both(wideTuple(600, -1), wideTuple(600, -1)), both(wideTuple(600, -1), wideTuple(600, 0)))
	compares(t, "0", both(wideTuple(600, -1), wideTuple(600, -1)), both(wideTuple(600, 0), wideTuple(600, -1)))
	compares(t, "Size", both(wideTuple(600, -1), wideTuple(600, -1)), both(wideTuple(600, -1), wideTuple(600, 599)))
	compares(t, "Size", both(wideTuple(998, -1), ins(num(1))), both(wideTuple(998, -1), ins(num(2))))
	compares(t, "0", both(wideTuple(997, -1), ins(num(1))), both(wideTuple(997, -1), ins(num(2))))
	// A block that has the same one twice, again and again: as many pairs as there are ways.
	twice := ins(num(1))
	for range 20 {
		twice = append(twice, in(api.InStore, 0), in(api.InSlot, 0), in(api.InSlot, 0), in(api.InBlock, 0, 2))
	}
	compares(t, "Size", twice, twice)
	// A text is one pair, however long.
	long := append(times(max-1, in(api.InStr, 4)), in(api.InBlock, 0, max-1))
	compares(t, "1", long, long)
}
