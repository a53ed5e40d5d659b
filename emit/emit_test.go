package emit

import (
	"reflect"
	"slices"
	"strings"
	"testing"

	"mlcore/api"
	"mlcore/infer"
)

// A text that is no program has the fault of Infer, and no code.
func TestP14_1Faults(t *testing.T) {
	kinds := map[api.Errno]bool{}
	for _, text := range []string{
		strings.Repeat(" ", api.MaxText+1), "val x = 1 \x01", "val x = \"", "val x =", "val x = " + strings.Repeat("(", 100) + "1" + strings.Repeat(")", 100),
		"val x = y", "val x = A", "val x = A.y", "fun f A = 1", "open A", "fun f x x = 1", "val (x, x) = (1, 2)", "data t = A fun f (A x) = 1", "data t = A of int fun f A = 1", "val x = 1 2", "val x = 1 + true", "val 1 = \"a\"", "fun f x = case x of 1 => 1 | \"a\" => 2 end", "val x = try 1 with 1 => 2 end", "val x = raise 1", "val x = fn y => y y", "val x = (fn y => y) = (fn z => z)",
		"fun p x = (x, x) val x = fn y => p (p (p (p (p (p (p (p (p y))))))))", "structure A : sig val x : int end = struct end", "structure A : sig val x : int end = struct val x = true end", "val y = 1 val x = 1 + true",
	} {
		_, want := infer.Infer(text)
		c, f := Emit(text)
		if f != want || f.Kind == api.OK || !reflect.DeepEqual(c, api.Code{}) {
			t.Errorf("%.60s: %v %v, want %v", text, c, f, want)
		}
		kinds[f.Kind] = true
	}
	for kind := api.ErrLong; kind <= api.ErrOther; kind++ {
		if !kinds[kind] {
			t.Errorf("no text with the fault %d", kind)
		}
	}
}

const sample = `
structure T :> sig data t = L | N of t * int * t exception Empty of string val least : t -> int end = struct
  data t = L | N of t * int * t
  exception Empty of string
  fun least t = case t of L => raise Empty "none" | N (L, n, _) => n | N (l, _, _) => least l end
end
fun map f l = case l of [] => [] | (x :: r) => f x :: map f r end and twice f x = f (f x)
val ((a as [b, c]), d, "s", 1) = (map (fn x => x + 1) [1, 2], T.N, "s", 1)
val e = let exception E of int val g = E fun h 1 y = try raise (g 1) with E 2 => 5 | E n => n + y | Div => 0 end in h end
val k = (d, T.L, T.Empty) val () = print (str (twice (e b) c))
`

// The same text has the same code, whatever was asked ahead of it, or done with what was answered.
func TestP14_1Again(t *testing.T) {
	first := codeOf(t, sample)
	want := written(first)
	for range 3 {
		c := codeOf(t, sample)
		if !reflect.DeepEqual(c, first) {
			t.Fatalf("%s\nthen %s", want, written(c))
		}
		for _, f := range c.Funs {
			clear(f.Ins)
		}
		clear(c.Funs)
		clear(c.Texts)
		codeOf(t, `exception E val [x] = ["a"]`)
	}
	if written(first) != want {
		t.Errorf("%s\nthen %s", want, written(first))
	}
}

// span is the memory of a list, with the room behind it.
type span struct{ from, to uintptr }

func spanOf[T any](l []T) span {
	from := reflect.ValueOf(l).Pointer()
	return span{from, from + uintptr(cap(l))*reflect.TypeFor[T]().Size()}
}

// No two lists of one answer share memory.
func TestP14_1Memory(t *testing.T) {
	c := codeOf(t, sample)
	l := []span{spanOf(c.Texts), spanOf(c.Funs)}
	for _, f := range c.Funs {
		l = append(l, spanOf(f.Ins))
	}
	slices.SortFunc(l, func(a, b span) int { return int(a.from) - int(b.from) })
	for i := range len(l) - 1 {
		if l[i].to > l[i+1].from {
			t.Errorf("shares %v %v", l[i], l[i+1])
		}
	}
	if len(l) < 10 {
		t.Errorf("%d lists", len(l))
	}
}

// Each text of a code is there once, and is asked for.
func TestP14_1Texts(t *testing.T) {
	for text, want := range map[string][]string{
		"": nil, "val x = 1": nil, `val x = ("a", "b", "a", "")`: {"a", "b", ""}, `exception A val x = "A" fun f "b" = "A"`: {"A", "b"},
		// What is never come to has no texts.
		`val x = (raise Div; "a")`: nil, `val x = case raise Div of 1 => "a" | _ => let exception E in "b" end end`: nil,
	} {
		if c := codeOf(t, text); !slices.Equal(c.Texts, want) {
			t.Errorf("%s: %q, want %q", text, c.Texts, want)
		}
	}
}
