package flat

import (
	"reflect"
	"slices"
	"strings"
	"testing"

	"mlcore/api"
	"mlcore/infer"
)

// A text that is no program has the fault of Infer, and no program.
func TestP10_1Faults(t *testing.T) {
	kinds := map[api.Errno]bool{}
	for _, text := range []string{
		strings.Repeat(" ", api.MaxText+1), "val x = 1 \x01", "val x = \"", "val x =", "val x = " + strings.Repeat("(", 100) + "1" + strings.Repeat(")", 100),
		"val x = y", "val x = A", "val x = A.y", "fun f A = 1", "open A", "fun f x x = 1", "val (x, x) = (1, 2)", "data t = A fun f (A x) = 1", "data t = A of int fun f A = 1", "val x = 1 2", "val x = 1 + true", "val 1 = \"a\"", "fun f x = case x of 1 => 1 | \"a\" => 2 end", "val x = try 1 with 1 => 2 end", "val x = raise 1", "val x = fn y => y y", "val x = (fn y => y) = (fn z => z)",
		"fun p x = (x, x) val x = fn y => p (p (p (p (p (p (p (p (p y))))))))", "structure A : sig val x : int end = struct end", "structure A : sig val x : int end = struct val x = true end", "val y = 1 val x = 1 + true",
	} {
		_, want := infer.Infer(text)
		p, f := Flat(text)
		if f != want || f.Kind == api.OK || !reflect.DeepEqual(p, api.Flat{}) {
			t.Errorf("%.60s: %v %v, want %v", text, p, f, want)
		}
		kinds[f.Kind] = true
	}
	for kind := api.ErrLong; kind <= api.ErrOther; kind++ {
		if !kinds[kind] {
			t.Errorf("no text with the fault %d", kind)
		}
	}
}

const sample = `
structure T :> sig data t = L | N of t * int * t exception Empty of string val least : t -> int end = struct
  data t = L | N of t * int * t
  exception Empty of string
  fun least t = case t of L => raise Empty "none" | N (L, n, _) => n | N (l, _, _) => least l end
end
fun map f l = case l of [] => [] | (x :: r) => f x :: map f r end and twice f x = f (f x)
val ((a as [b, c]), d, "s", 1) = (map (fn x => x + 1) [1, 2], T.N, "s", 1)
val e = let exception E of int val g = E fun h 1 y = try raise (g 1) with E 2 => 5 | E n => n + y | Div => 0 end in h end
val k = (d, T.L, T.Empty) val () = print (str (twice (e b) c))
`

// The same text has the same flat program, whatever was asked ahead of it, or done with what was answered.
func TestP10_1Again(t *testing.T) {
	first := programOf(t, sample)
	want := written(first)
	for range 3 {
		p := programOf(t, sample)
		if !reflect.DeepEqual(p, first) {
			t.Fatalf("%s\nthen %s", want, written(p))
		}
		for _, f := range p.Funs {
			spoil(f.Body)
		}
		clear(p.Funs)
		programOf(t, "exception E val [x] = [1]")
	}
	if written(first) != want {
		t.Errorf("%s\nthen %s", want, written(first))
	}
}

// spoil overwrites a term's lists.
func spoil(x api.Term) {
	for i, k := range x.Kids {
		spoil(k)
		x.Kids[i] = api.Term{Op: api.TFail, S: "spoilt"}
	}
	for i := range x.Ns {
		x.Ns[i] = -1
	}
}

// span is the memory of a list, with the room behind it.
type span struct{ from, to uintptr }

func spanOf[T any](l []T) span {
	from := reflect.ValueOf(l).Pointer()
	return span{from, from + uintptr(cap(l))*reflect.TypeFor[T]().Size()}
}

func spans(x api.Term) []span {
	l := []span{spanOf(x.Ns), spanOf(x.Pats), spanOf(x.Kids)}
	for _, k := range x.Kids {
		l = append(l, spans(k)...)
	}
	return l
}

// No two lists of one answer share memory.
func TestP10_1Memory(t *testing.T) {
	p := programOf(t, sample)
	l := []span{spanOf(p.Funs)}
	for _, f := range p.Funs {
		l = append(l, spans(f.Body)...)
	}
	l = slices.DeleteFunc(l, func(s span) bool { return s.from == s.to })
	slices.SortFunc(l, func(a, b span) int { return int(a.from) - int(b.from) })
	for i := range len(l) - 1 {
		if l[i].to > l[i+1].from {
			t.Errorf("shares %v %v", l[i], l[i+1])
		}
	}
	if len(l) < 100 {
		t.Errorf("%d lists", len(l))
	}
}
