package machine

import (
	"fmt"
	"strings"
	"testing"

	"mlcore/api"
)

// gives holds a function of the beginning to what it should give for a value; by InTail, too.
func gives(t *testing.T, want, name string, argument ...api.Ins) {
	t.Helper()
	comesBeside(t, beside(), want, calls(name, argument...)...)
	funs := append(beside(), fun(0, base(name), in(api.InArg), in(api.InTail)))
	comesBeside(t, funs, want, join(ins(in(api.InMake, 3)), argument, ins(in(api.InCall)))...)
}

func TestP13_3Bases(t *testing.T) {
	for n, want := range map[int]string{0: "1", 1: "0", 2: "0", -1: "0", api.MaxInt: "0"} {
		gives(t, want, "not", num(n))
	}
	for n, want := range map[int]string{0: `"0"`, 7: `"7"`, -7: `"~7"`, 120: `"120"`, api.MaxInt: `"1000000000"`, -api.MaxInt: `"~1000000000"`} {
		gives(t, want, "str", num(n))
	}
	for n, want := range map[int]string{0: `"\x00"`, 65: `"A"`, 128: `"\x80"`, 255: `"\xff"`, 256: "Bounds", -1: "Bounds", api.MaxInt: "Bounds"} {
		gives(t, want, "chr", num(n))
	}
	for i, s := range texts() {
		gives(t, fmt.Sprint(len(s)), "size", in(api.InStr, i))
		gives(t, "0", "print", in(api.InStr, i))
	}
	for _, v := range samples() {
		gives(t, "cells0("+v.is+")", "ref", v.list...)
	}
}

func TestP13_3TextBases(t *testing.T) {
	for k, s := range texts() {
		text := ins(in(api.InStr, k))
		for _, i := range []int{-api.MaxInt, -1, 0, 1, 2, 7, 8, 9, 10, len(s) - 1, len(s), len(s) + 1, api.MaxInt} {
			want := "Bounds"
			if i >= 0 && i < len(s) {
				want = fmt.Sprint(s[i])
			}
			gives(t, want, "sub", tuple(text, ins(num(i)))...)
			for _, n := range []int{-api.MaxInt, -1, 0, 1, 2, 8, len(s) - i, len(s) - i + 1, api.MaxInt} {
				if n < -api.MaxInt || n > api.MaxInt {
					continue
				}
				want := "Bounds"
				if i >= 0 && n >= 0 && i+n <= len(s) {
					want = fmt.Sprintf("%q", s[i:i+n])
				}
				comesTo(t, want, calls("part", tuple(text, ins(num(i)), ins(num(n)))...))
			}
		}
	}
}

func TestP13_3Arrays(t *testing.T) {
	for _, v := range samples() {
		for _, n := range []int{0, 1, 2, 5, api.MaxArray} {
			want := "cells1(" + strings.TrimSuffix(strings.Repeat(v.is+" ", n), " ") + ")"
			gives(t, want, "array", tuple(ins(num(n)), v.list)...)
		}
		for _, n := range []int{-1, -api.MaxInt, api.MaxArray + 1, api.MaxInt} {
			gives(t, "Size", "array", tuple(ins(num(n)), v.list)...)
		}
	}
	array := func(n int) []api.Ins { return calls("array", tuple(ins(num(n)), ins(num(8)))...) }
	for _, n := range []int{0, 1, 3, api.MaxArray} {
		gives(t, fmt.Sprint(n), "length", array(n)...)
		for _, i := range []int{-api.MaxInt, -1, 0, 1, n - 1, n, n + 1, api.MaxInt} {
			at, put := "Bounds", "Bounds"
			if i >= 0 && i < n {
				at, put = "8", "0"
			}
			gives(t, at, "at", tuple(array(n), ins(num(i)))...)
			gives(t, put, "put", tuple(array(n), ins(num(i)), ins(num(4)))...)
		}
	}
	for _, v := range samples() {
		stored := join(array(3), ins(in(api.InStore, 0)))
		slot := ins(in(api.InSlot, 0))
		put := append(calls("put", tuple(slot, ins(num(1)), v.list)...), in(api.InDrop))
		comesTo(t, "cells1(8 "+v.is+" 8)", stored, put, slot)
		comesTo(t, v.is, stored, put, calls("at", tuple(slot, ins(num(1)))...))
		comesTo(t, "8", stored, put, calls("at", tuple(slot, ins(num(2)))...))
	}
}

// What each function asks for; all else is Wrong, even where something would be raised.
func TestP13_3BasesWrong(t *testing.T) {
	list := samples()
	isNumber := func(v sample) bool { return v.is[len(v.is)-1] != ')' && v.is[0] != '"' }
	isText := func(v sample) bool { return v.is[0] == '"' }
	isArray := func(v sample) bool { return strings.HasPrefix(v.is, "cells1") }
	for name, right := range map[string]func(sample) bool{"not": isNumber, "str": isNumber, "chr": isNumber, "print": isText, "size": isText, "length": isArray} {
		for _, v := range list {
			if !right(v) {
				gives(t, "Wrong", name, v.list...)
			}
		}
	}
	text, array, far := ins(in(api.InStr, 2)), calls("array", tuple(ins(num(2)), ins(num(8)))...), ins(num(99))
	for _, v := range list {
		for _, name := range []string{"sub", "part", "array", "at", "put"} {
			if v.is[0] != 'b' {
				gives(t, "Wrong", name, v.list...)
			}
		}
		if !isNumber(v) {
			gives(t, "Wrong", "array", tuple(v.list, v.list)...)
			gives(t, "Wrong", "sub", tuple(text, v.list)...)
			gives(t, "Wrong", "part", tuple(text, v.list, far)...)
			gives(t, "Wrong", "part", tuple(text, far, v.list)...)
			gives(t, "Wrong", "at", tuple(array, v.list)...)
			gives(t, "Wrong", "put", tuple(array, v.list, far)...)
		}
		if !isText(v) {
			gives(t, "Wrong", "sub", tuple(v.list, far)...)
			gives(t, "Wrong", "part", tuple(v.list, far, far)...)
		}
		if !isArray(v) {
			gives(t, "Wrong", "at", tuple(v.list, far)...)
			gives(t, "Wrong", "put", tuple(v.list, far, far)...)
		}
		gives(t, "Bounds", "put", tuple(array, far, v.list)...)
	}
	// As many fields as there are arguments; the tag may be any.
	for name, r := range map[string]struct {
		parts [][]api.Ins
		want  string
	}{
		"sub": {[][]api.Ins{text, ins(num(1))}, "99"}, "part": {[][]api.Ins{text, ins(num(1)), ins(num(1))}, `"c"`}, "array": {[][]api.Ins{ins(num(1)), ins(num(2))}, "cells1(2)"},
		"at": {[][]api.Ins{array, ins(num(1))}, "8"}, "put": {[][]api.Ins{array, ins(num(1)), ins(num(2))}, "0"},
	} {
		n := len(r.parts)
		gives(t, r.want, name, tuple(r.parts...)...)
		gives(t, r.want, name, append(join(r.parts...), in(api.InBlock, 77, n))...)
		gives(t, "Wrong", name, tuple(r.parts[:n-1]...)...)
		gives(t, "Wrong", name, tuple(append(r.parts, ins(num(1)))...)...)
	}
}

// At most MaxOut bytes are printed; what would be more is not printed at all, and raises Size.
func TestP13_3Print(t *testing.T) {
	full := times(api.MaxOut/api.MaxStr, base("print"), in(api.InStr, 5), in(api.InCall), in(api.InDrop))
	say := func(text int) []api.Ins { return ins(base("print"), in(api.InStr, text), in(api.InCall)) }
	out := strings.Repeat("x", api.MaxOut)
	n := len(full)
	plays(t, codeOf(fun(0, join(full, say(0), ins(ret))...)), 99, 999, api.Outcome{Kind: api.Done, Out: out, Steps: n + 4})
	plays(t, codeOf(fun(0, join(full, say(1), ins(ret))...)), 99, 999, api.Outcome{Kind: api.Raised, Name: "Size", Out: out, Steps: n + 3})
	less := full[:n-4]
	short := out[:api.MaxOut-api.MaxStr]
	plays(t, codeOf(fun(0, join(less, say(1), say(5), ins(in(api.InDrop), ret))...)), 99, 999, api.Outcome{Kind: api.Raised, Name: "Size", Out: short + "a", Steps: n - 4 + 6})
	// After it something that fits is printed.
	tried := join(ins(in(api.InTry, n+4)), less, say(1), say(5), ins(in(api.InRaise)))
	plays(t, codeOf(fun(0, join(tried, ins(in(api.InDrop)), say(2), ins(in(api.InDrop)), ins(num(0), in(api.InReturn)))...)), 99, 999, api.Outcome{Kind: api.Done, Out: short + "abc", Steps: 1 + n - 4 + 6 + 1 + 4 + 2})
}
