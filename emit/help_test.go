package emit

import (
	"strconv"
	"strings"
	"testing"

	"mlcore/api"
	"mlcore/code"
)

// row is a text, and how its code is written.
type row struct{ text, want string }

// written writes a code: of each function how much it catches, its slots, its instructions with their numbers where
// others go to them: 0/1 int 1, store 0, int 0, return.
func written(c api.Code) string {
	var l []string
	for _, f := range c.Funs {
		l = append(l, strconv.Itoa(f.Free)+"/"+strconv.Itoa(f.Slots)+" "+writtenList(c, f.Ins))
	}
	return strings.Join(l, "; ")
}

func writtenList(c api.Code, list []api.Ins) string {
	reached := map[int]bool{}
	for _, in := range list {
		if goes(in.Op) {
			reached[in.A] = true
		}
	}
	var l []string
	for i, in := range list {
		s := writtenIns(c, in)
		if reached[i] {
			s = strconv.Itoa(i) + ": " + s
		}
		l = append(l, s)
	}
	return strings.Join(l, ", ")
}

func goes(op int) bool { return op == api.InJump || op == api.InUnless || op == api.InTry }

func writtenIns(c api.Code, in api.Ins) string {
	a, b := strconv.Itoa(in.A), strconv.Itoa(in.B)
	switch in.Op {
	case api.InStr:
		return strconv.Quote(c.Texts[in.A])
	case api.InExn:
		return "exception " + c.Texts[in.A] + "/" + b
	case api.InBase:
		return code.Bases()[in.A]
	case api.InSign:
		return code.Signs()[in.A]
	case api.InStd:
		return code.Exceptions()[in.A]
	case api.InBlock:
		return "block " + a + " " + b
	case api.InPatch:
		return "patch " + a + " " + b
	}
	word := [...]string{
		api.InInt: "int ", api.InArg: "arg", api.InFree: "free ", api.InSlot: "slot ", api.InStore: "store ", api.InField: "field ", api.InIsInt: "is ", api.InIsBlock: "isblock ", api.InSame: "same", api.InMake: "make ", api.InCall: "call", api.InTail: "tail",
		api.InReturn: "return", api.InJump: "jump ", api.InUnless: "unless ", api.InTry: "try ", api.InEnd: "end", api.InRaise: "raise", api.InDrop: "drop",
	}[in.Op]
	if strings.HasSuffix(word, " ") {
		return word + a
	}
	return word
}

// codeOf is the code of a text that is a program: it can be run, and be written.
func codeOf(t *testing.T, text string) api.Code {
	t.Helper()
	c, f := Emit(text)
	if f != (api.Fault{}) {
		t.Fatalf("%s: %v", text, f)
	}
	canBeRun(t, text, c)
	return c
}

func canBeRun(t *testing.T, text string, c api.Code) {
	t.Helper()
	f := code.Check(c)
	s, e := code.Encode(c)
	if f != (api.Fault{}) || e != api.OK || s == "" {
		t.Fatalf("%.300s: %v %v in %.3000s", text, f, e, written(c))
	}
}

// becomes holds programs to their codes.
func becomes(t *testing.T, rows ...row) {
	t.Helper()
	for _, r := range rows {
		if got := written(codeOf(t, r.text)); got != r.want {
			t.Errorf("%s\n got %s\nwant %s", r.text, got, r.want)
		}
	}
}
