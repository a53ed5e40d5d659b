package code

import (
	"errors"
	"fmt"
	"runtime"
	"strings"
	"testing"
	"unsafe"

	"mlcore/api"
)

func TestP12_2Reads(t *testing.T) {
	c, s := sample()
	if d := read(t, s); !sameCode(d, c) {
		t.Errorf("%v, want %v", d, c)
	}
	if d := read(t, "ML1\x00\x00\x00\x00"); !sameCode(d, api.Code{}) {
		t.Errorf("%v", d)
	}
}

// fails looks for a fault, with an empty code.
func fails(t *testing.T, s string, kind api.Errno, at int) {
	t.Helper()
	c, f := Decode(s)
	if f != (api.Fault{Kind: kind, At: at}) || !sameCode(c, api.Code{}) {
		t.Errorf("%.100q: %v, want %v at %d", s, f, kind, at)
	}
}

func TestP12_2Head(t *testing.T) {
	_, s := sample()
	for i := range 3 {
		fails(t, s[:i], api.ErrEnd, i)
		for b := range 256 {
			if byte(b) == s[i] {
				continue
			}
			fails(t, s[:i]+string([]byte{byte(b)})+s[i+1:], api.ErrHead, i)
			fails(t, s[:i]+string([]byte{byte(b)}), api.ErrHead, i)
		}
	}
	fails(t, "XX", api.ErrHead, 0)
	fails(t, "ml1\x00\x00\x00\x00", api.ErrHead, 0)
	fails(t, "ML2\x00", api.ErrHead, 2)
}

// Bytes that end too early are told at their length, wherever that is; bytes that go on at the first that is too much.
func TestP12_2End(t *testing.T) {
	_, s := sample()
	for i := range s {
		fails(t, s[:i], api.ErrEnd, i)
	}
	for _, more := range []string{"\x00", "x", "\xff\xff", s} {
		fails(t, s+more, api.ErrEnd, len(s))
	}
	fails(t, "ML1\x00\x01\xc8"+strings.Repeat("x", 199), api.ErrEnd, 6+199)
	fails(t, "ML1\x00\x00\x00\x00\x00", api.ErrEnd, 7)
	fails(t, "ML1\x00\x00\x00\x01", api.ErrEnd, 7)
	fails(t, "ML1\xff\xff\x00\x00\x00", api.ErrEnd, 8)
}

func TestP12_2Texts(t *testing.T) {
	for n := range 256 {
		s := "ML1\x00\x02\x01a" + string([]byte{byte(n)}) + strings.Repeat("b", n) + "\x00\x00"
		if n > api.MaxStr {
			fails(t, s, api.ErrNumber, 7)
			fails(t, s[:8], api.ErrNumber, 7)
		} else if c := read(t, s); len(c.Texts) != 2 || c.Texts[1] != strings.Repeat("b", n) {
			t.Errorf("%d: %v", n, c)
		}
	}
}

func TestP12_2Ops(t *testing.T) {
	for op := range 256 {
		s := "ML1\x00\x00\x00\x02\x00\x00\x00\x00\x00\x01\x19\x00\x00\x00\x00\x00\x02\x03" + string([]byte{byte(op)})
		if op >= api.Inss {
			fails(t, s, api.ErrOp, len(s)-1)
			fails(t, s+"\x00\x00\x00\x00\x00", api.ErrOp, len(s)-1)
			continue
		}
		width, want := 0, in(op)
		switch twos, hasNumber := operandsOf(op); {
		case hasNumber:
			width, want = 4, in(op, 0x1020304)
		case twos == 2:
			width, want = 4, in(op, 0x102, 0x304)
		case twos == 1:
			width, want = 2, in(op, 0x102)
		}
		for n := range width {
			fails(t, s+strings.Repeat("\x00", n), api.ErrEnd, len(s)+n)
		}
		s += "\x01\x02\x03\x04"[:width]
		fails(t, s+"\x00", api.ErrEnd, len(s))
		if c := read(t, s); c.Funs[1].Ins[1] != want {
			t.Errorf("%d: %v", op, c)
		}
	}
}

func TestP12_2Numbers(t *testing.T) {
	for op, ok := range map[byte]bool{api.InInt: true, api.InIsInt: true, api.InBlock: false} {
		s := "ML1\x00\x00\x00\x01\x00\x00\x00\x00\x00\x02" + string([]byte{op})
		for bytes, n := range map[string]int{
			"\x3b\x9a\xca\x00": api.MaxInt, "\xc4\x65\x36\x00": -api.MaxInt, "\x00\x00\x00\x00": 0, "\xff\xff\xff\xff": -1,
			"\x00\x00\x80\x00": 32768, "\xff\xff\x80\x00": -32768, "\x01\x02\x03\x04": 0x1020304,
		} {
			if c := read(t, s+bytes+"\x19"); ok && c.Funs[0].Ins[0] != in(int(op), n) {
				t.Errorf("%d %q: %v", op, bytes, c)
			}
		}
		for _, bytes := range []string{"\x3b\x9a\xca\x01", "\xc4\x65\x35\xff", "\x7f\xff\xff\xff", "\x80\x00\x00\x00", "\x40\x00\x00\x00"} {
			if !ok {
				read(t, s+bytes+"\x19")
				continue
			}
			fails(t, s+bytes+"\x19", api.ErrNumber, len(s))
			fails(t, s+bytes, api.ErrNumber, len(s))
			fails(t, s+bytes[:3], api.ErrEnd, len(s)+3)
		}
	}
}

func TestP12_2Long(t *testing.T) {
	s := written(t, long(api.MaxCode))
	if c := read(t, s); !sameCode(c, long(api.MaxCode)) {
		t.Error("not what was written")
	}
	fails(t, s+"x", api.ErrLong, 0)
	fails(t, strings.Repeat("x", api.MaxCode+1), api.ErrLong, 0)
	fails(t, strings.Repeat("x", api.MaxCode), api.ErrHead, 0)
}

// Where several things are wrong the first from the left is told.
func TestP12_2First(t *testing.T) {
	fails(t, "MX2\x00\x01\xff", api.ErrHead, 1)
	fails(t, "ML1\x00\x02\xc9\xc9", api.ErrNumber, 5)
	fails(t, "ML1\x00\x02\x01a\xc9", api.ErrNumber, 7)
	fails(t, "ML1\x00\x00\x00\x01\x00\x00\x00\x00\x00\x03\x1a\x00\x7f\xff\xff\xff", api.ErrOp, 13)
	fails(t, "ML1\x00\x00\x00\x01\x00\x00\x00\x00\x00\x03\x00\x7f\xff\xff\xff\x1a", api.ErrNumber, 14)
	fails(t, "ML1\x00\x00\x00\x01\x00\x00\x00\x00\x00\x01\x1axxxx", api.ErrOp, 13)
}

// Bytes that only say that they have much take no memory for it.
func TestP1CodeMemory(t *testing.T) {
	var before, after runtime.MemStats
	runtime.ReadMemStats(&before)
	for range 1000 {
		fails(t, "ML1\xff\xff", api.ErrEnd, 5)
		fails(t, "ML1\x00\x00\xff\xff\x00\x00\x00\x00\xff\xff", api.ErrEnd, 13)
	}
	runtime.ReadMemStats(&after)
	if n := after.TotalAlloc - before.TotalAlloc; n > 1000*2000 {
		t.Errorf("%d bytes", n)
	}
}

// What is answered is new memory: no two lists of it share any, and it keeps nothing of the bytes.
func TestP1CodeShared(t *testing.T) {
	want, s := sample()
	first, second := read(t, s), read(t, s)
	for i := range first.Funs {
		l := first.Funs[i].Ins
		l = l[:cap(l)]
		for k := range l {
			l[k] = in(-1, -2, -3)
		}
		first.Funs[i].Ins = nil
		for k, f := range first.Funs[i+1:] {
			if !sameCode(codeOf(f), codeOf(want.Funs[i+1+k])) {
				t.Errorf("function %d is spoilt by %d", i+1+k, i)
			}
		}
	}
	if !sameCode(second, want) || !sameCode(read(t, s), want) {
		t.Error("an answer hangs on another")
	}
	for _, text := range second.Texts {
		at, from := uintptr(unsafe.Pointer(unsafe.StringData(text))), uintptr(unsafe.Pointer(unsafe.StringData(s)))
		if text != "" && at >= from && at < from+uintptr(len(s)) {
			t.Errorf("%q is a part of the bytes", text)
		}
	}
}

// What is handed over is only read.
func TestP1CodeOnlyRead(t *testing.T) {
	c, _ := sample()
	want := copyOf(c)
	Encode(c)
	Check(c)
	if !sameCode(c, want) {
		t.Errorf("%v", c)
	}
}

// A fault is told as an error, and is asked for by its type, even within another error.
func TestP12_2Errors(t *testing.T) {
	_, err := (&reader{bytes: "ML1\x00"}).code()
	if err == nil || err.Error() != "fault 16 at 4" {
		t.Fatal(err)
	}
	var no refusal
	if !errors.As(fmt.Errorf("not read: %w", err), &no) || no.fault != (api.Fault{Kind: api.ErrEnd, At: 4}) {
		t.Error(no)
	}
}
