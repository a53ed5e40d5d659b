package mlcore

import (
	"strconv"
	"strings"
	"testing"

	"mlcore/api"
)

// ends holds a program to how it ends: Done, Memory, or the name of what was raised.
func ends(t *testing.T, text string, cells int, end, out string) {
	t.Helper()
	o, f := Run(text, cells, api.MaxFuel)
	got := []string{"Going", "Done", o.Name, "Memory", "Wrong"}[o.Kind]
	if f != (api.Fault{}) || got != end || o.Out != out {
		t.Errorf("%s, %d cells: %v %v, want %s %q", text, cells, o, f, end, out)
	}
}

// The examples of the document, and others, do what they mean.
func TestP15_5Examples(t *testing.T) {
	for _, r := range [][3]string{
		{"fun fact n = if n = 0 then 1 else n * fact (n - 1) val _ = print (str (fact 10))", "Done", "3628800"},
		{"fun fact n = if n = 0 then 1 else n * fact (n - 1) val _ = print (str (fact 13))", "Overflow", ""},
		{"exception Stop of int val n = try 1 + (raise Stop 4) with Stop k => k * 2 | Div => 0 end val _ = print (str n)", "Done", "8"},
		{"structure S :> sig type t val make : int -> t val get : t -> int end = struct type t = int fun make n = n + 1 fun get n = n end val x = S.get (S.make 1) val _ = print (str x)", "Done", "2"},
		{"val a = array (3, 0) val _ = put (a, 3, 1)", "Bounds", ""},
		{`fun f (x, y) = y :: x val s = f ([], "a") = f ([], "a") val _ = if s then print "same" else ()`, "Done", "same"},
		{`fun hd l = case l of x :: _ => x end val _ = print "a" val _ = hd []`, "Match", "a"},
		{"val (x, 2) = (1, 3)", "Bind", ""},
		{`fun dup s = (print s; dup (s ^ s)) val _ = dup "abcdefgh"`, "Size", "abcdefgh" + strings.Repeat("abcdefgh", 2+4+8+16)},
		{"fun loop n = loop (n + 1) val _ = loop 0", "Going", ""},
	} {
		ends(t, r[0], 500, r[1], r[2])
	}
}

// madeLists is a loop that makes lists of so many elements and lets them go.
func madeLists(rounds, k int) string {
	return `fun make n = if n = 0 then [] else n :: make (n - 1)
fun len l = case l of [] => 0 | _ :: r => 1 + len r end
fun go (i, l) = if i = 0 then len l else go (i - 1, make ` + strconv.Itoa(k) + `)
val _ = print (str (go (` + strconv.Itoa(rounds) + `, [])))`
}

func TestP15_8Lists(t *testing.T) {
	for k := range 21 {
		ends(t, madeLists(0, k), 400+60*k, "Done", "0")
		for _, rounds := range []int{1, 2, 100, 2000} {
			ends(t, madeLists(rounds, k), 400+60*k, "Done", strconv.Itoa(k))
		}
	}
}

// leastHeap is the least heap on which a program's memory is not over.
func leastHeap(t *testing.T, text string) int {
	t.Helper()
	low, high := 0, 20000
	for low < high {
		cells := (low + high) / 2
		o, f := Run(text, cells, api.MaxFuel)
		if f != (api.Fault{}) || o.Kind == api.Wrong {
			t.Fatalf("%s: %v %v", text, o, f)
		}
		if o.Kind == api.Memory {
			low = cells + 1
		} else {
			high = cells
		}
	}
	return low
}

// What a loop lets go is forgotten: it needs the same heap, however often it goes round.
func TestP15_8Forgotten(t *testing.T) {
	const make = "fun make n = if n = 0 then [] else n :: make (n - 1) fun len l = case l of [] => 0 | _ :: r => 1 + len r end "
	for _, r := range []struct{ name, text string }{
		{"the argument", "fun go (i, l) = if i = 0 then len l else go (i - 1, make 9) val _ = go (N, [])"},
		{"two arguments", "fun go i l = if i = 0 then len l else go (i - 1) (make 9) val _ = go N []"},
		{"a val", "fun go i = if i = 0 then 0 else let val l = make 9 val m = make (len l) in go (i - 1) end val _ = go N"},
		{"a pattern", "fun go (i, x :: r) = if i = 0 then x else go (i - 1, make (1 + len r)) val _ = go (N, make 9)"},
		{"a reference", "val r = ref [] fun go i = if i = 0 then 0 else (r := make 9; go (i - 1)) val _ = go N"},
		{"an array", "val a = array (3, []) fun go i = if i = 0 then 0 else (put (a, i % 3, make 9); go (i - 1)) val _ = go N"},
		{"arrays", "fun go (i, a) = if i = 0 then length a else go (i - 1, array (20, i)) val _ = go (N, array (1, 0))"},
		{"arrays of a name", "val p = (20, make 9) fun go (i, a) = if i = 0 then length a else go (i - 1, array p) val _ = go (N, array p)"},
		{"arrays that are written", "fun go (i, a) = if i = 0 then at (a, 3) else (put (a, 3, i); go (i - 1, array (20, i))) val _ = go (N, array (20, 0))"},
		{"what an array was made of", "val a = ref (array (1, [])) fun go i = if i = 0 then 0 else (a := array (2, make 9); go (i - 1)) val _ = go N"},
		{"what all of its cells held", "data t = A of t array | B fun go (i, t) = if i = 0 then 0 else let val a = array (2, t) in (put (a, 0, B); put (a, 1, B); go (i - 1, A a)) end val _ = go (N, B)"},
		{"what it would hold", "data t = A of t array | B fun go (i, t) = if i = 0 then 0 else go (i - 1, A (array (0, t))) val _ = go (N, B)"},
		{"what is out of bounds", "val a = array (20, []) fun go i = if i = 0 then 0 else (try put (a, 20, make 9) with Bounds => () end; try (at (a, ~1); ()) with Bounds => () end; go (i - 1)) val _ = go N"},
		{"what is too great", "fun go i = if i = 0 then 0 else (try (array (100 + i, make 9); ()) with Size => () end; go (i - 1)) val _ = go N"},
		{"a function", "fun go (i, f) = if i = 0 then len (f ()) else let val l = make 9 in go (i - 1, fn () => l) end val _ = go (N, fn () => [])"},
		{"an exception", "exception E of int list fun go i = if i = 0 then 0 else try raise E (make 9) with E l => go (i - 1) end val _ = go N"},
		{"what is tried", "fun go i = if i = 0 then 0 else (try len (make 9) + 1 / 0 with Div => 0 end; go (i - 1)) val _ = go N"},
		{"a string", `fun go (i, s) = if i = 0 then size s else go (i - 1, if size s > 150 then "" else s ^ "ab" ^ str i) val _ = go (N, "")`},
		{"what waits", "fun sum (i, l) = if i = 0 then 0 else len l + sum (i - 1, make 9) fun go i = if i = 0 then 0 else (sum (3, []); go (i - 1)) val _ = go N"},
	} {
		text := func(rounds int) string { return make + strings.Replace(r.text, "N", strconv.Itoa(rounds), 1) }
		few, many := leastHeap(t, text(200)), leastHeap(t, text(1500))
		if few != many || many > 400 {
			t.Errorf("%s: %d cells, then %d", r.name, few, many)
		}
	}
}

// An application whose value is that of its function takes no call of its own, wherever it stands in it.
func TestP15_8Tails(t *testing.T) {
	for _, body := range []string{
		"if n = 0 then 0 else f (n - 1)", "if n > 0 then f (n - 1) else 0", "case n of 0 => 0 | _ => f (n - 1) end", "case n of 0 => 0 | 1 => f 0 | m => f (m - 1) end", "case (n, n) of (0, _) => 0 | (_, m) => f (m - 1) end", "(print \"\"; if n = 0 then 0 else f (n - 1))", "if n = 0 then 0 else (n; n; f (n - 1))",
		"if n = 0 then 0 else let val m = n - 1 in f m end", "if n = 0 then 0 else let val (m, [k]) = (n - 1, [n]) in f m end", "if n = 0 then 0 else let fun g k = k - 1 in f (g n) end", "if n = 0 then 0 else let fun g k = f (k - 1) in g n end", "if n = 0 then 0 else let exception E in f (n - 1) end", "if n = 0 then 0 else (f (n - 1) : int)", "if n = 0 then 0 else ((fn k => f (k - 1)) n : int)",
		"if n = 0 then 0 else try raise Div with Div => f (n - 1) end", "if n = 0 then 0 else try raise Size with Div => 1 | _ => f (n - 1) end", "let val m = try n / 0 with Div => n end in if m = 0 then 0 else f (m - 1) end", "if n = 0 then 0 else (fn g => g (n - 1)) f", "let val g = if n = 0 then fn _ => 0 else f in g (n - 1) end",
	} {
		ends(t, "fun f n = "+body+" val _ = print (str (f 3000))", 60, "Done", "0")
	}
	for _, text := range []string{
		"fun f n = n = 0 orelse f (n - 1)", "fun f n = n > ~1 andalso (n = 0 orelse f (n - 1))", "fun f n = n = 0 orelse g (n - 1) and g n = n = 0 orelse f (n - 1)", "fun g n m = m = 0 orelse g n (m - 1) val f = g 1", "fun f 0 = true val g = ref f fun f n = n = 0 orelse !g (n - 1) val _ = g := f",
	} {
		ends(t, text+" val _ = if f 3000 then print \"t\" else ()", 60, "Done", "t")
	}
	// Functions of the beginning are called so, too.
	for _, body := range []string{"at (a, 2)", "length a - 2", "(put (a, 0, n); 1)", "at (array (n, 1), n - 1)", "g (a, 2)"} {
		ends(t, "val g = at val a = array (3, 1) fun h n = "+body+" fun f n = if n = 0 then 0 else f (n - h 5) val _ = print (str (f 3000))", 60, "Done", "0")
	}
	ends(t, "fun p s = print s fun f n = if n = 0 then p \"e\" else (p \"\"; f (n - 1)) val _ = f 3000", 60, "Done", "e")
}

// One that is in a try of its function does: what it raises is handled there.
func TestP15_8Tries(t *testing.T) {
	const tried = "fun f n = try if n = 0 then raise Div else f (n - 1) with Div => raise Size | Size => n end val _ = print (str (f N))"
	for _, n := range []string{"1", "2", "450"} {
		ends(t, strings.Replace(tried, "N", n, 1), 2000, "Done", "1")
	}
	ends(t, strings.Replace(tried, "N", "600", 1), api.MaxHeap, "Memory", "")
}

// Where as much waits as P15.6 says there are calls for the functions of arrays, too.
func TestP15_6ArrayCalls(t *testing.T) {
	for _, last := range []string{"length (array (100, 0))", "at (array (3, 100), 2)", "(put (a, 1, 50); at (a, 0) + at (a, 1))", "(at (a, 3); 0)", "(put (a, 3, 0); 0)", "length (array (101, 0))"} {
		text := "val a = array (3, 50) fun f n = if n = 0 then " + last + " else 1 + f (n - 1) val _ = print (str (try f 390 with Bounds => 490 | Size => 490 end))"
		ends(t, text, 400, "Done", "490")
	}
}

// Calls that wait are at most MaxCalls.
func TestP15_8Calls(t *testing.T) {
	const deep = "fun f n = if n = 0 then 0 else 1 + f (n - 1) val _ = print (str (f N))"
	ends(t, strings.Replace(deep, "N", "498", 1), 60, "Done", "498")
	ends(t, strings.Replace(deep, "N", "499", 1), api.MaxHeap, "Memory", "")
}
