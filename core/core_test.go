package core

import (
	"fmt"
	"reflect"
	"slices"
	"strings"
	"testing"

	"mlcore/api"
	"mlcore/infer"
)

// A text that is no program has the fault of Infer, and no term.
func TestP7_1Faults(t *testing.T) {
	kinds := map[api.Errno]bool{}
	for _, text := range []string{
		strings.Repeat(" ", api.MaxText+1), "val x = 1 \x01", "val x = \"", "val x =", "val x = " + strings.Repeat("(", 100) + "1" + strings.Repeat(")", 100),
		"val x = y", "val x = A", "val x = A.y", "fun f A = 1", "open A", "fun f x x = 1", "val (x, x) = (1, 2)", "data t = A fun f (A x) = 1", "val x = 1 2", "val x = 1 + true", "val 1 = \"a\"", "val x = raise 1", "val x = fn y => y y", "val x = (fn y => y) = (fn z => z)",
		"fun p x = (x, x) val x = fn y => p (p (p (p (p (p (p (p (p y))))))))", "structure A : sig val x : int end = struct end", "structure A : sig val x : int end = struct val x = true end", "val y = 1 val x = 1 + true",
	} {
		_, want := infer.Infer(text)
		x, f := Core(text)
		if f != want || f.Kind == api.OK || !reflect.DeepEqual(x, api.Term{}) {
			t.Errorf("%.60s: %v %v, want %v", text, x, f, want)
		}
		kinds[f.Kind] = true
	}
	for kind := api.ErrLong; kind <= api.ErrOther; kind++ {
		if !kinds[kind] {
			t.Errorf("no text with the fault %d", kind)
		}
	}
}

// numbers is those that a term gives, in the order in which it is written.
func numbers(x api.Term) []int {
	l := slices.Clone(x.Ns)
	if x.Op == api.TNewExn {
		l = append(l, x.N)
	}
	for _, p := range x.Pats {
		l = append(l, patNumbers(p)...)
	}
	for _, k := range x.Kids {
		l = append(l, numbers(k)...)
	}
	return l
}

func patNumbers(p api.Pat) (l []int) {
	if p.Kind == api.PtVar || p.Kind == api.PtAs {
		l = append(l, p.N)
	}
	for _, k := range p.Kids {
		l = append(l, patNumbers(k)...)
	}
	return l
}

const sample = `
signature S = sig data t = L | N of t * int * t exception Empty of string val least : t -> int end
structure T :> S = struct
  data t = L | N of t * int * t
  exception Empty of string
  fun least t = case t of L => raise Empty "none" | N (L, n, _) => n | N (l, _, _) => least l end
  exception L
end
fun map f l = case l of [] => [] | (x :: r) => f x :: map f r end and twice f x = f (f x)
val ((a as [b, c]), d) = (map (fn x => x + 1) [1, 2], T.N)
val e = let exception E of int val g = E fun h x y = try raise (g x) with E n => n + y | _ => 0 end in h end
open T
val k = (d, L, Empty) val _ = print (str (twice (e b) c))
`

// The numbers are 1, 2, 3 and so on: each is given once.
func TestP7_1Numbers(t *testing.T) {
	l := numbers(made(t, sample))
	slices.Sort(l)
	for i, n := range l {
		if n != i+1 {
			t.Fatalf("%d is %d: %v", i+1, n, l)
		}
	}
	if len(l) < 25 {
		t.Errorf("%v", l)
	}
	// They come in the order in which they are asked for: of a val the expression's are first, of a fun all names, of an as its own.
	becomes(t, row{
		"exception E of int fun f (a as b) c = E and g x = fn y => case x of z => try z with w => w end end val (m, n) = (fn o => let val p = E in p end, E)",
		"(newexn@0 1 /1 E (funs@19 #2 #3 (fn@23 [as@25 4 [var@31 5]] (fn@23 [var@34 6] (fn@38 [var@38 7] (exn@38 1 (var@38 7))))) (fn@44 [var@46 8] (fn@50 [var@53 9] (case@58 [var@68 10] (var@63 8) (try@73 [var@84 11] (var@77 10) (var@89 11)))))" +
			" (let@99 [tuple@103 [var@104 16] [var@107 17]] (tuple@112 (fn@113 [var@116 12] (let@125 [var@129 14] (fn@133 [var@133 13] (exn@133 1 (var@133 13))) (var@138 14))) (fn@145 [var@145 15] (exn@145 1 (var@145 15)))) (tuple@0))))",
	})
}

// The same text has the same term, whatever was asked ahead of it, or done with what was answered.
func TestP7_1Again(t *testing.T) {
	first := written(made(t, sample))
	for range 3 {
		x := made(t, sample)
		if written(x) != first {
			t.Fatalf("%s\nthen %s", first, written(x))
		}
		spoil(x)
		made(t, "exception E val x = 1")
	}
}

// spoil overwrites a term's lists.
func spoil(x api.Term) {
	for i, k := range x.Kids {
		spoil(k)
		x.Kids[i] = api.Term{Op: api.TFail, S: "spoilt"}
	}
	for i := range x.Pats {
		x.Pats[i] = api.Pat{Kind: api.PtStr, S: "spoilt"}
	}
	for i := range x.Ns {
		x.Ns[i] = -1
	}
}

// span is the memory of a list, with the room behind it.
type span struct{ from, to uintptr }

func spanOf[T any](l []T) span {
	from := reflect.ValueOf(l).Pointer()
	return span{from, from + uintptr(cap(l))*reflect.TypeFor[T]().Size()}
}

func spans(x api.Term) []span {
	l := []span{spanOf(x.Ns), spanOf(x.Pats), spanOf(x.Kids)}
	for _, p := range x.Pats {
		l = append(l, patSpans(p)...)
	}
	for _, k := range x.Kids {
		l = append(l, spans(k)...)
	}
	return l
}

func patSpans(p api.Pat) []span {
	l := []span{spanOf(p.Kids)}
	for _, k := range p.Kids {
		l = append(l, patSpans(k)...)
	}
	return l
}

// No two lists of one answer share memory.
func TestP7_1Memory(t *testing.T) {
	for _, text := range []string{sample, ahead + " fun g x y (z as [u, _]) = (B, true andalso x orelse y, [1, 2], 1 :: [])"} {
		x := made(t, text)
		l := slices.DeleteFunc(spans(x), func(s span) bool { return s.from == s.to })
		slices.SortFunc(l, func(a, b span) int { return int(a.from) - int(b.from) })
		for i := range len(l) - 1 {
			if l[i].to > l[i+1].from {
				t.Errorf("%s: shares %v %v", text, l[i], l[i+1])
			}
		}
		if len(l) < 10 {
			t.Errorf("%s: %d lists", text, len(l))
		}
	}
}

// Texts as long and as deep as they may be have terms.
func TestP1Great(t *testing.T) {
	fill := func(front, part, back string) string {
		return front + strings.Repeat(part, (api.MaxText-len(front)-len(back))/len(part)) + back
	}
	var names []string
	for i := range 199 {
		names = append(names, fmt.Sprintf("a%d", i))
	}
	for _, text := range []string{
		fill("", "val x=1 ", ""), fill("", "fun f x=x ", ""), fill("", "exception E ", ""), fill("val x=[1", ",1", "]"), fill("val x=1", "::1", "::[]"), fill("val x=1", "+1", ""), fill("val x=(1", ";1", ")"), fill("val x=true", " orelse true", ""), fill("fun f x=f x val x=f", " 1", ""),
		fill("fun f[1", ",1", "]=1"), fill("fun f(1", "::1", "::_)=1"), "fun f" + strings.Repeat(" _", 199) + " = 1", fill("fun f x=case x of 1=>1", "|1=>1", " end"), fill("val x=let ", "val x=1 ", "in x end"), fill("", "structure A=struct val x=1 end ", ""), fill("structure A=struct val x=1 end ", "open A ", ""),
		"val x = " + strings.Repeat("(", 58) + "1" + strings.Repeat(")", 58), "val x = " + strings.Repeat("let in ", 58) + "1" + strings.Repeat(" end", 58), "val x = " + strings.Repeat("[", 58) + strings.Repeat("]", 58), "fun f (" + strings.Join(names, ", ") + ") = a198", "fun f " + strings.Join(names, " ") + " = a198",
	} {
		x, f := Core(text)
		if f != (api.Fault{}) || x.Op != api.TTuple && len(x.Kids) == 0 {
			t.Errorf("%.60s: %v", text, f)
		}
	}
}
