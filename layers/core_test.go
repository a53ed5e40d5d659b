package layers

import (
	"strings"
	"testing"

	"mlcore/api"
	"mlcore/core"
	"mlcore/meaning"
)

// Random programs have the terms that the second way to them makes.
func TestP7_1Random(t *testing.T) {
	t.Parallel()
	ops, kinds := map[int]int{}, map[int]int{}
	for seed := range 2500 {
		_, text, n, ok := random(seed)
		if !ok {
			continue
		}
		got, f := core.Core(text)
		if want := slowTermOf(n); f != (api.Fault{}) || !sameTerm(got, want) {
			t.Fatalf("%s: %v\n got %v\nwant %v", text, f, got, want)
		}
		count(got, ops, kinds)
	}
	for op := api.TInt; op <= api.TNewExn; op++ {
		if ops[op] < 100 {
			t.Errorf("%d terms of op %d", ops[op], op)
		}
	}
	for kind := api.PtAny; kind <= api.PtExn; kind++ {
		if kinds[kind] < 100 {
			t.Errorf("%d patterns of kind %d", kinds[kind], kind)
		}
	}
}

// count counts the ops and the kinds of patterns in a term.
func count(x api.Term, ops, kinds map[int]int) {
	ops[x.Op]++
	for _, p := range x.Pats {
		countPat(p, kinds)
	}
	for _, k := range x.Kids {
		count(k, ops, kinds)
	}
}

func countPat(p api.Pat, kinds map[int]int) {
	kinds[p.Kind]++
	for _, k := range p.Kids {
		countPat(k, kinds)
	}
}

// The terms of random programs do what these mean.
func TestP7_5Random(t *testing.T) {
	t.Parallel()
	ends := map[string]int{}
	for seed := range 2000 {
		if _, text, _, ok := random(seed); ok {
			ends[doesTheSame(t, text, 3000, coreDoes(t, text))]++
		}
	}
	comesTo(t, ends)
}

// coreDoes evaluates the core term of a text.
func coreDoes(t *testing.T, text string) func(steps int) api.Outcome {
	t.Helper()
	x, f := core.Core(text)
	if f != (api.Fault{}) {
		t.Fatalf("%s: %v", text, f)
	}
	return func(steps int) api.Outcome { return slowTerm(x, steps) }
}

// doesTheSame holds a term to what its text means, and both to the bounds of
// steps; its answer is how the text ends in so many steps.
func doesTheSame(t *testing.T, text string, steps int, term func(steps int) api.Outcome) string {
	t.Helper()
	o, f := meaning.Run(text, steps)
	if f != (api.Fault{}) {
		t.Fatalf("%s: %v", text, f)
	}
	if o.Kind != api.Going {
		endsAlike(t, text, o, term(bound(text, o.Steps)))
		return ending(o)
	}
	of := term(steps)
	if of.Kind != api.Going && bound(text, of.Steps) <= api.MaxFuel {
		o, _ = meaning.Run(text, bound(text, of.Steps))
		endsAlike(t, text, o, of)
	}
	if of.Kind == api.Wrong || !strings.HasPrefix(o.Out, of.Out) && !strings.HasPrefix(of.Out, o.Out) {
		t.Fatalf("%s: prints %q, its term %v", text, o.Out, of)
	}
	return ending(o)
}

// bound is in how many steps a text's term ends, if the text ends in k; and the other way round.
func bound(text string, k int) int { return 8 * (k + 1) * (len(text) + 1) }

func endsAlike(t *testing.T, text string, o, of api.Outcome) {
	t.Helper()
	if o.Kind == api.Going || o.Kind != of.Kind || o.Name != of.Name || o.Out != of.Out {
		t.Fatalf("%s: is %v, its term %v", text, o, of)
	}
	if of.Steps > bound(text, o.Steps) || o.Steps > bound(text, of.Steps) {
		t.Errorf("%s: takes %d steps, its term %d", text, o.Steps, of.Steps)
	}
}

// endings is programs that are known to end, in each way.
func endings() []knownEnd {
	const tell = "fun p n = (print (str n); n) fun q n x = (print (str n); x) "
	return []knownEnd{
		{"", "Done", ""},
		{"fun fact n = if n = 0 then 1 else n * fact (n - 1) val _ = print (str (fact 10))", "Done", "3628800"},
		{"fun fact n = if n = 0 then 1 else n * fact (n - 1) val _ = print (str (fact 13))", "Overflow", ""},
		{"exception Stop of int val n = try 1 + (raise Stop 4) with Stop k => k * 2 | Div => 0 end val _ = print (str n)", "Done", "8"},
		{"structure S :> sig type t val make : int -> t val get : t -> int end = struct type t = int fun make n = n + 1 fun get n = n end val _ = print (str (S.get (S.make 1)))", "Done", "2"},
		{"val a = array (3, 0) val _ = put (a, 3, 1)", "Bounds", ""},
		// From the left.
		{tell + "val _ = (p 1, [p 2, p 3], p 4 :: [p 5], p 6 + p 7, (p 8; p 9))", "Done", "123456789"},
		{tell + "data t = A of int * int exception E of int val _ = (q 1 A (p 2, p 3), A (p 4, p 5), q 6 E (p 7), E (p 8))", "Done", "12345678"},
		{tell + "val _ = if q 1 true andalso q 2 false orelse q 3 true then p 4 else p 5", "Done", "1234"},
		{tell + "val _ = let val x = p 1 fun f y z = p (x + y + z) in f (p 2) (p 3) end", "Done", "1236"},
		{tell + "val a = p 1 structure A : sig val b : int end = struct val c = p 2 val b = p 3 end val _ = p 4", "Done", "1234"},
		// What raises, and what handles it.
		{"val 1 = 2", "Bind", ""},
		{"fun f 1 = 2 val _ = f 3", "Match", ""},
		{"fun f x 1 = 2 val g = f 1 val _ = print \"a\" val _ = g 3", "Match", "a"},
		{"val _ = case [1] of [] => 1 | [_, _] => 2 end", "Match", ""},
		{"val _ = try raise Div with Size => 1 end", "Div", ""},
		{"val _ = print (try str (1 / 0) with Size => \"s\" | Div => \"d\" end)", "Done", "d"},
		{"val _ = print (try let val [x] = [1, 2] in \"x\" end with Match => \"m\" | Bind => \"b\" end)", "Done", "b"},
		{"val _ = print (try (fn 1 => \"x\") 2 with Bind => \"b\" | Match => \"m\" end)", "Done", "m"},
		{"exception Match val _ = print (try (fn 1 => \"x\") 2 with Match => \"own\" | _ => \"first\" end)", "Done", "first"},
		{"exception Div val _ = print (try raise Div with Div => \"own\" end) val _ = 1 / 0", "Div", "own"},
		// An exception is a new one each time that it is come to.
		{"fun f () = let exception E in (E, fn g => try g () with E => 1 end) end val (e, h) = f () val (d, k) = f () val _ = print (str (try h (fn () => raise d) with _ => 2 end) ^ str (h (fn () => raise e)))", "Done", "21"},
		{"fun f n g = let exception E of int in if n = 0 then g () else try f (n - 1) (fn () => raise E n) with E k => k * 10 end end val _ = print (str (f 3 (fn () => 0)))", "Done", "10"},
		// Constructors are told apart by their numbers, whatever hides them.
		{"data t = A | B of int | C of t * t fun sum t = case t of A => 1 | B n => n | C (x, y) => sum x + sum y end val l = [B] val [b] = l val _ = print (str (sum (C (A, C (b 5, B 7)))))", "Done", "13"},
		{"structure S : sig data t = A | B of int val f : t -> int end = struct data t = A | B of int fun f A = 1 fun f x = case x of B n => n | A => 9 end exception A exception B of int end val _ = print (str (S.f S.A * 10 + S.f (S.B 3)))", "Done", "93"},
		{"data t = A | B data u = B | A | C val x = A val _ = print (case x of A => \"a\" | B => \"b\" | C => \"c\" end)", "Done", "a"},
		{"fun f (x, y) = y :: x val _ = print (if f ([], \"a\") = f ([], \"a\") then \"same\" else \"other\")", "Done", "same"},
		{"val (x as (y, z :: _)) = (1, [2, 3]) val _ = case x of (a, [b, c]) => print (str (a + b * 10 + c * 100 + y + z)) end", "Done", "324"},
		{"fun loop n = loop (n + 1) val _ = loop 0", "Going", ""},
		{"val _ = print \"a\" fun f x = (f x; 1) val _ = f 1", "Going", "a"},
	}
}

type knownEnd struct{ text, end, out string }

// Terms do what programs mean that are known to end.
func TestP7_5Programs(t *testing.T) {
	for _, r := range endings() {
		r.holds(t, coreDoes(t, r.text))
	}
}

func (r knownEnd) holds(t *testing.T, term func(steps int) api.Outcome) {
	t.Helper()
	o, _ := meaning.Run(r.text, 10000)
	if end := doesTheSame(t, r.text, 10000, term); end != r.end || o.Out != r.out {
		t.Errorf("%s: %s %q, want %s %q", r.text, end, o.Out, r.end, r.out)
	}
}

// uneven is programs that take steps where their terms take none, and the other way round.
func uneven() []string {
	loop := func(body string) string {
		return "fun go n x = if n = 0 then x else go (n - 1) (" + body + ") val _ = go 20 1"
	}
	return []string{
		loop("x"), loop(strings.Repeat("let in ", 50) + "x" + strings.Repeat(" end", 50)), loop(strings.Repeat("(", 50) + "x" + strings.Repeat(" : int)", 50)),
		loop("let " + strings.Repeat("exception E ", 200) + "in x end"), loop("let " + strings.Repeat("fun f x = x ", 200) + "in x end"), loop("let " + strings.Repeat("val y = x ", 200) + "in x end"),
		loop("(" + strings.Repeat("[];", 400) + "x)"), loop("(fn [] => x) []"), loop("(fn f => f x) (fn y => y)"),
		strings.Repeat("exception E ", 300), strings.Repeat("fun f x = x ", 300), "structure A = struct " + strings.Repeat("exception E ", 200) + "end", "val x = " + strings.Repeat("(", 50) + "1" + strings.Repeat(" : int)", 50),
	}
}

// The bounds of steps hold where a text and its term take them at different places.
func TestP7_5Steps(t *testing.T) {
	for _, text := range uneven() {
		if end := doesTheSame(t, text, api.MaxFuel, coreDoes(t, text)); end != "Done" {
			t.Errorf("%.60s: %s", text, end)
		}
	}
}
