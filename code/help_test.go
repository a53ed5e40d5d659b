package code

import (
	"fmt"
	"slices"
	"testing"

	"mlcore/api"
)

// in is an instruction with its operands.
func in(op int, operands ...int) api.Ins {
	x := api.Ins{Op: op}
	for i, n := range operands {
		*[]*int{&x.A, &x.B}[i] = n
	}
	return x
}

// body is a function with a slot, which has caught nothing.
func body(list ...api.Ins) api.CodeFun { return api.CodeFun{Slots: 1, Ins: list} }

func codeOf(funs ...api.CodeFun) api.Code { return api.Code{Funs: funs} }

// unit is the least function that can be run.
func unit() api.CodeFun { return body(in(api.InInt, 0), in(api.InReturn)) }

// times is an instruction, many times.
func times(n int, x api.Ins) []api.Ins { return slices.Repeat([]api.Ins{x}, n) }

func sameCode(a, b api.Code) bool {
	return slices.Equal(a.Texts, b.Texts) && slices.EqualFunc(a.Funs, b.Funs, func(f, g api.CodeFun) bool {
		return f.Free == g.Free && f.Slots == g.Slots && slices.Equal(f.Ins, g.Ins)
	})
}

// short is the beginning of how a code is shown.
func short(c api.Code) string { return fmt.Sprintf("%.400s", fmt.Sprint(c)) }

func copyOf(c api.Code) api.Code {
	d := api.Code{Texts: slices.Clone(c.Texts), Funs: slices.Clone(c.Funs)}
	for i, f := range d.Funs {
		d.Funs[i].Ins = slices.Clone(f.Ins)
	}
	return d
}

// written is the bytes of a code that can be written.
func written(t *testing.T, c api.Code) string {
	t.Helper()
	s, e := Encode(c)
	if e != api.OK {
		t.Fatalf("%s: %v", short(c), e)
	}
	return s
}

// read is the code of bytes that can be read.
func read(t *testing.T, s string) api.Code {
	t.Helper()
	c, f := Decode(s)
	if f != (api.Fault{}) {
		t.Fatalf("%.200q: %v", s, f)
	}
	return c
}

// sample is a code with an instruction of each Op, and its bytes, written by hand.
func sample() (api.Code, string) {
	c := api.Code{Texts: []string{"", "hi\x00\xff", "E"}, Funs: []api.CodeFun{
		{Free: 0, Slots: 258, Ins: []api.Ins{
			in(api.InInt, 0), in(api.InInt, 1), in(api.InInt, -1), in(api.InInt, api.MaxInt), in(api.InInt, -api.MaxInt),
			in(api.InStr, 1), in(api.InBase, 11), in(api.InArg), in(api.InFree, 256), in(api.InSlot, 257), in(api.InStore, 65535),
			in(api.InBlock, 3, 1000), in(api.InField, 7), in(api.InIsInt, -2), in(api.InIsBlock, 9), in(api.InSame), in(api.InSign, 14),
		}},
		{Free: 65535, Slots: 0},
		{Free: 1, Slots: 65535, Ins: []api.Ins{
			in(api.InMake, 1), in(api.InPatch, 515, 772), in(api.InCall), in(api.InTail), in(api.InReturn), in(api.InJump, 4660),
			in(api.InUnless, 1), in(api.InTry, 2), in(api.InEnd), in(api.InRaise), in(api.InExn, 2, 1), in(api.InStd, 5), in(api.InDrop),
		}},
	}}
	return c, "ML1" + "\x00\x03" + "\x00" + "\x04hi\x00\xff" + "\x01E" + "\x00\x03" +
		"\x00\x00" + "\x01\x02" + "\x00\x11" +
		"\x00\x00\x00\x00\x00" + "\x00\x00\x00\x00\x01" + "\x00\xff\xff\xff\xff" + "\x00\x3b\x9a\xca\x00" + "\x00\xc4\x65\x36\x00" +
		"\x01\x00\x01" + "\x02\x00\x0b" + "\x03" + "\x04\x01\x00" + "\x05\x01\x01" + "\x06\xff\xff" +
		"\x07\x00\x03\x03\xe8" + "\x08\x00\x07" + "\x09\xff\xff\xff\xfe" + "\x0a\x00\x09" + "\x0b" + "\x0c\x00\x0e" +
		"\xff\xff" + "\x00\x00" + "\x00\x00" +
		"\x00\x01" + "\xff\xff" + "\x00\x0d" +
		"\x0d\x00\x01" + "\x0e\x02\x03\x03\x04" + "\x0f" + "\x10" + "\x11" + "\x12\x12\x34" +
		"\x13\x00\x01" + "\x14\x00\x02" + "\x15" + "\x16" + "\x17\x00\x02\x00\x01" + "\x18\x00\x05" + "\x19"
}
