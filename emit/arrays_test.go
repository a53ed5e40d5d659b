package emit

import (
	"slices"
	"testing"

	"mlcore/api"
	"mlcore/code"
)

// The codes of the functions of arrays.
const (
	arrayCode  = "0/0 ref, int 1, arg, field 0, <=, unless 13, arg, field 0, int 100, <=, unless 13, arg, jump 16, 13: array, arg, call, 16: tail"
	lengthCode = "0/1 arg, !, store 0, slot 0, isblock 0, unless 9, slot 0, field 0, return, 9: length, slot 0, tail"
	atCode     = "0/1 arg, field 0, !, store 0, slot 0, isblock 0, unless 24, int 0, arg, field 1, <=, unless 21, arg, field 1, slot 0, field 0, <, unless 21, slot 0, field 1, return, 21: Bounds, block 0 1, raise, 24: at, slot 0, arg, field 1, block 0 2, tail"
	putCode    = "0/1 arg, field 0, !, store 0, slot 0, isblock 0, unless 31, int 0, arg, field 1, <=, unless 27, arg, field 1, slot 0, field 0, <, unless 27, array, slot 0, call, store 0, arg, field 0, slot 0, :=, jump 30, 27: Bounds, block 0 1, raise, 30: jump 32, 31: int 0, 32: drop, put, slot 0, arg, field 1, arg, field 2, block 0 3, tail"
)

// The functions of arrays have code behind that of the program, once, and only if they are asked for.
func TestP14_1Arrays(t *testing.T) {
	becomes(t,
		row{"val x = array", "0/1 make 1, store 0, int 0, return; " + arrayCode}, row{"val x = length", "0/1 make 1, store 0, int 0, return; " + lengthCode}, row{"val x = at", "0/1 make 1, store 0, int 0, return; " + atCode}, row{"val x = put", "0/1 make 1, store 0, int 0, return; " + putCode},
		row{"val a = array (3, 7) val _ = put (a, 0, at (a, 1))", "0/1 make 1, int 3, int 7, block 0 2, call, store 0, make 2, slot 0, int 0, make 3, slot 0, int 1, block 0 2, call, block 0 3, call, drop, int 0, return; " + arrayCode + "; " + putCode + "; " + atCode},
		row{"fun f x = length (array x) val _ = f (1, array)", "0/1 make 1, store 0, slot 0, int 1, make 2, block 0 2, call, drop, int 0, return; 0/0 make 3, make 2, arg, call, tail; " + arrayCode + "; " + lengthCode},
		// What is never come to asks for nothing; a name of the program's own is no function of arrays.
		row{"val x = (raise Div; array)", "0/1 Div, block 0 1, raise"}, row{"fun at x = x val _ = at 1", "0/1 make 1, store 0, slot 0, int 1, call, drop, int 0, return; 0/0 arg, return"},
	)
}

// Programs ask the machine for arrays through these functions alone: an array is the same thing wherever it comes from.
func TestP14_1ArraysAlone(t *testing.T) {
	names := code.Bases()
	c := codeOf(t, "fun f x = (array, length, at, put, ref, print) val a = array val b = (fn () => [length]) () val c = try at with _ => at end val d = let val e = put in fn x => put x end")
	for i, f := range c.Funs[:len(c.Funs)-4] {
		for _, in := range f.Ins {
			if in.Op == api.InBase && slices.Contains([]string{"array", "length", "at", "put"}, names[in.A]) {
				t.Errorf("function %d asks for %s", i, names[in.A])
			}
		}
	}
}
