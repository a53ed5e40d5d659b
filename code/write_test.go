package code

import (
	"math"
	"slices"
	"strings"
	"testing"

	"mlcore/api"
)

func TestP12_1Bytes(t *testing.T) {
	c, want := sample()
	if s := written(t, c); s != want {
		t.Errorf("%q, want %q", s, want)
	}
	if s := written(t, api.Code{}); s != "ML1\x00\x00\x00\x00" {
		t.Errorf("%q", s)
	}
	if s := written(t, codeOf(unit())); s != "ML1\x00\x00\x00\x01\x00\x00\x00\x01\x00\x02\x00\x00\x00\x00\x00\x11" {
		t.Errorf("%q", s)
	}
}

// How many operands of 2 bytes each Op has; those with a number have none.
func operandsOf(op int) (twos int, hasNumber bool) {
	switch op {
	case api.InInt, api.InIsInt:
		return 0, true
	case api.InBlock, api.InPatch, api.InExn:
		return 2, false
	case api.InArg, api.InSame, api.InCall, api.InTail, api.InReturn, api.InEnd, api.InRaise, api.InDrop:
		return 0, false
	}
	return 1, false
}

// Each operand of each instruction goes as far as it may, and no farther.
func TestP12_1Operands(t *testing.T) {
	numbers := []int{
		math.MinInt, -1 << 33, -1 << 32, -1 << 31, -api.MaxInt - 1, -api.MaxInt, -65536, -2, -1, 0, 1, 2, 255, 256, 65535, 65536, 65537,
		api.MaxInt, api.MaxInt + 1, 1<<31 - 1, 1 << 31, 1<<32 - 1, 1 << 32, 1<<32 + 1, math.MaxInt,
	}
	two := func(n int) bool { return n >= 0 && n <= 65535 }
	for op := range api.Inss {
		twos, hasNumber := operandsOf(op)
		for _, a := range numbers {
			for _, b := range numbers {
				ok := (two(a) || hasNumber && a >= -api.MaxInt && a <= api.MaxInt) && two(b)
				ok = ok && (a == 0 || twos > 0 || hasNumber) && (b == 0 || twos > 1)
				c := codeOf(unit(), body(in(api.InArg), in(op, a, b)))
				s, e := Encode(c)
				switch {
				case !ok && (s != "" || e != api.ErrNumber), ok && e != api.OK:
					t.Errorf("%d %d %d: %v", op, a, b, e)
				case ok && !sameCode(read(t, s), c):
					t.Errorf("%d %d %d: %q", op, a, b, s)
				}
			}
		}
	}
}

func TestP12_1Numbers(t *testing.T) {
	for _, op := range []int{math.MinInt, -256, -1, api.Inss, api.Inss + 1, 255, 256, 256 + api.InDrop, math.MaxInt} {
		if s, e := Encode(codeOf(body(in(op)))); s != "" || e != api.ErrNumber {
			t.Errorf("Op %d: %v", op, e)
		}
	}
	for _, n := range []int{math.MinInt, -65536, -1, 65536, 65537, 1 << 32, math.MaxInt} {
		for i, f := range []api.CodeFun{{Free: n}, {Slots: n}} {
			if s, e := Encode(codeOf(unit(), f)); s != "" || e != api.ErrNumber {
				t.Errorf("%d: %d: %v", i, n, e)
			}
		}
	}
	for _, n := range []int{0, 1, 255, 256, 65535} {
		f := api.CodeFun{Free: n, Slots: 65535 - n}
		if c := codeOf(unit(), f); !sameCode(read(t, written(t, c)), c) {
			t.Errorf("%d", n)
		}
	}
}

// What is too much is so from one more than may be on, and not before.
func TestP12_1Many(t *testing.T) {
	text := strings.Repeat("x", api.MaxStr)
	for _, r := range []struct {
		name string
		code func(n int) api.Code
		most int
	}{
		{"texts", func(n int) api.Code { return api.Code{Texts: make([]string, n)} }, 65535},
		{"functions", func(n int) api.Code { return api.Code{Funs: make([]api.CodeFun, n)} }, 65535},
		{"instructions", func(n int) api.Code { return codeOf(unit(), body(times(n, in(api.InDrop))...)) }, 65535},
		{"bytes of a text", func(n int) api.Code { return api.Code{Texts: []string{text, (text + "yyyyy")[:n], ""}} }, api.MaxStr},
	} {
		for _, n := range []int{r.most - 1, r.most} {
			c := r.code(n)
			if s, e := Encode(c); e != api.OK || !sameCode(read(t, s), c) {
				t.Errorf("%d %s: %v", n, r.name, e)
			}
		}
		if s, e := Encode(r.code(r.most + 1)); s != "" || e != api.ErrNumber {
			t.Errorf("%d %s: %v", r.most+1, r.name, e)
		}
	}
}

// filled is a code of n bytes, from 1000 on, with these texts and as many instructions x, of so many bytes, as go into it.
func filled(n int, texts []string, x api.Ins, width int) api.Code {
	c := api.Code{Texts: texts}
	n -= len("ML1") + 2 + 2
	for _, s := range texts {
		n -= 1 + len(s)
	}
	for n > 6+65000*width+6 {
		c.Funs = append(c.Funs, body(times(65000, x)...))
		n -= 6 + 65000*width
	}
	n -= 6
	last := body(times(n/width, x)...)
	last.Ins = append(last.Ins, times(n%width, in(api.InArg))...)
	c.Funs = append(c.Funs, last)
	return c
}

// long is a code of n bytes.
func long(n int) api.Code { return filled(n, nil, in(api.InInt, -7), 5) }

// The bytes are counted as they are written, whatever they are of.
func TestP12_1Edge(t *testing.T) {
	for op := range api.Inss {
		twos, hasNumber := operandsOf(op)
		width := 1 + 2*twos
		if hasNumber {
			width = 5
		}
		texts := slices.Repeat([]string{"", "abc", strings.Repeat("x", api.MaxStr)}, 500*op)
		if s, e := Encode(filled(api.MaxCode, texts, in(op), width)); e != api.OK || len(s) != api.MaxCode {
			t.Errorf("%d: %d bytes, %v", op, len(s), e)
		}
		if s, e := Encode(filled(api.MaxCode+1, texts, in(op), width)); s != "" || e != api.ErrLong {
			t.Errorf("%d: %d bytes, %v", op, len(s), e)
		}
	}
}

func TestP12_1Long(t *testing.T) {
	for _, n := range []int{1000, 1003, api.MaxCode - 1, api.MaxCode} {
		if s, e := Encode(long(n)); e != api.OK || len(s) != n {
			t.Errorf("%d bytes: %d, %v", n, len(s), e)
		}
	}
	for _, n := range []int{api.MaxCode + 1, api.MaxCode + 2, 2 * api.MaxCode} {
		c := long(n)
		if s, e := Encode(c); s != "" || e != api.ErrLong {
			t.Errorf("%d bytes: %v", n, e)
		}
		last := c.Funs[len(c.Funs)-1].Ins
		last[len(last)-1].B = 1
		if s, e := Encode(c); s != "" || e != api.ErrNumber {
			t.Errorf("%d bytes, and what does not fit: %v", n, e)
		}
	}
	// 65535 texts of 200 bytes: each thing fits, together they do not.
	c := api.Code{Texts: make([]string, 65535)}
	for i := range c.Texts {
		c.Texts[i] = strings.Repeat("x", api.MaxStr)
	}
	if s, e := Encode(c); s != "" || e != api.ErrLong {
		t.Errorf("%d bytes: %v", len(s), e)
	}
	c.Texts = c.Texts[:(api.MaxCode-7)/(api.MaxStr+1)]
	if s, e := Encode(c); e != api.OK || len(s) > api.MaxCode {
		t.Errorf("%d bytes: %v", len(s), e)
	}
}
