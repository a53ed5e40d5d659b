package layers

import (
	"strconv"
	"strings"
	"testing"

	"mlcore/api"
	"mlcore/flat"
)

// flatProgram is the flat program of a text, which has the form of P10.2.
func flatProgram(t *testing.T, text string) api.Flat {
	t.Helper()
	p, f := flat.Flat(text)
	if f != (api.Fault{}) {
		t.Fatalf("%s: %v", text, f)
	}
	if s := flatFault(p); s != "" {
		t.Fatalf("%s: %s in %v", text, s, p)
	}
	return p
}

func flatDoes(t *testing.T, text string) func(steps int) api.Outcome {
	t.Helper()
	p := flatProgram(t, text)
	return func(steps int) api.Outcome { return slowFlat(p, steps) }
}

// The flat programs of random programs have the form, and every op of it.
func TestP10_2Random(t *testing.T) {
	t.Parallel()
	ops, kinds := map[int]int{}, map[int]int{}
	for seed := range 500 {
		if _, text, _, ok := random(seed); ok {
			for _, f := range flatProgram(t, text).Funs {
				count(f.Body, ops, kinds)
			}
		}
	}
	for op := range api.TFix + 1 {
		if _, _, asked := flatKids(op); asked && ops[op] < 100 {
			t.Errorf("%d terms of op %d", ops[op], op)
		}
	}
}

// The flat programs of random programs do what these mean.
func TestP10_3Random(t *testing.T) {
	t.Parallel()
	ends := map[string]int{}
	for seed := range 2000 {
		if _, text, _, ok := random(seed); ok {
			ends[doesTheSame(t, text, 3000, flatDoes(t, text))]++
		}
	}
	comesTo(t, ends)
}

// catchEndings is programs that are known to end as they do by what their functions
// catch, and by what their slots have.
func catchEndings() []knownEnd {
	return []knownEnd{
		// A function catches what is there where it is made, through those around it.
		{"fun f x = fn y => (x, y) val (a, b) = f 1 2 val _ = print (str (a * 10 + b))", "Done", "12"},
		{"val a = 1 fun f b c = let val d = 4 in fn e => fn g => a * 100000 + b * 10000 + c * 1000 + d * 100 + e * 10 + g end val _ = print (str (f 2 3 5 6))", "Done", "123456"},
		{"fun f x = (fn y => y + x, fn y => y * x) val (a, b) = f 3 val (c, d) = f 4 val _ = print (str (a 10) ^ str (b 10) ^ str (c 10) ^ str (d 10))", "Done", "13301440"},
		{"val x = 1 fun f y = x + y val x = 10 fun g y = f (x + y) val _ = print (str (g 100))", "Done", "111"},
		{"fun f a b c d e = [a, b, c, d, e] val g = f 1 2 val h = g 3 val k = g 4 fun all l = case l of [] => \"\" | x :: r => str x ^ all r end val _ = print (all (h 5 6) ^ all (k 7 8) ^ all (h 9 0))", "Done", "123561247812390"},
		{"fun each n = if n = 0 then [] else (fn x => x + n) :: each (n - 1) fun sum l = case l of [] => 0 | f :: r => f 100 + sum r end val _ = print (str (sum (each 5)))", "Done", "515"},
		// Functions of one fun know one another, and what is around them.
		{"fun even n = if n = 0 then true else odd (n - 1) and odd n = if n = 0 then false else even (n - 1) val _ = print (if even 10 andalso odd 7 then \"y\" else \"n\")", "Done", "y"},
		{"fun f k = let val m = k + 1 fun a n = if n = 0 then k else b (n - 1) and b n = if n = 0 then m else c (n - 1) and c n = if n = 0 then k + m else a (n - 1) in (a, b) end val (a, b) = f 5 val (c, d) = f 7 val _ = print (str (a 0) ^ str (a 1) ^ str (a 2) ^ str (b 2) ^ str (c 3) ^ str (d 0))", "Done", "5611578"},
		{"fun f x = let fun g y = fn z => if z = 0 then x + y else g (y + 1) (z - 1) in g end val _ = print (str (f 10 5 3))", "Done", "18"},
		{"fun f x = let fun g y = let fun h z = if z = 0 then x else g (y - 1) and k z = h z in if y = 0 then k 0 else k y end in g 3 end val _ = print (str (f 9))", "Done", "9"},
		// What is side by side has the same slots, what is around it has others.
		{"val _ = print (str (let val a = 1 in (let val b = 2 val c = 3 in b * 10 + c end) * 10 + (let val d = 4 in a * 10 + d end) + a end))", "Done", "245"},
		{"fun f x = let val a = x * 2 in if x = 1 then let val b = a + 1 in b * a end else let val c = a + 2 val d = c + a in a * 100 + c * 10 + d end end val _ = print (str (f 1) ^ str (f 2))", "Done", "6470"},
		{"val f = let val a = 1 in fn x => a + x end val g = let val b = 10 in fn x => b + x end val _ = print (str (f 5) ^ str (g 5))", "Done", "615"},
		{"fun f n = let val a = n val r = if n = 0 then 0 else f (n - 1) val b = a * 10 in b + r + n end val _ = print (str (f 4))", "Done", "110"},
		{"val [a, b, c] = [let val x = 1 val y = 2 in x + y end, let val z = 4 in z end, 5] val _ = print (str (a * 100 + b * 10 + c))", "Done", "345"},
		// What a try has stored is over; what was stored ahead of it is there.
		{"val a = 1 val b = try let val c = 2 val d = 3 val e = c / (d - 3) in e end with Div => let val g = 7 in a * 10 + g end end val _ = print (str (a + b))", "Done", "18"},
		{"exception E of int val f = try let val x = 5 in raise E (x + 1) end with E n => fn y => n * 10 + y end val _ = print (str (f 1))", "Done", "61"},
		{"val _ = print (try try raise Div with x => let val y = x in raise Size end end with z => try raise z with Div => \"d\" | Size => \"s\" end end)", "Done", "s"},
		{"fun f x = try (try g x with Size => 1 end) + 1 with e => (fn () => try raise e with Div => x | Match => 5 end) () end and g 0 = raise Size and h y = y val _ = print (str (f 0) ^ str (f 7))", "Done", "25"},
		{"val x = 5 val _ = print (try raise (fn y => if x = y then Div else Size) 5 with Div => \"d\" end)", "Done", "d"},
		// Exceptions are caught as other values are.
		{"fun f n = let exception E of int in (fn x => raise E (x + n), fn g => try g () with E k => k * 10 end) end val (r, h) = f 1 val (s, k) = f 2 val _ = print (str (h (fn () => r 3)) ^ str (k (fn () => s 3))) val _ = h (fn () => s 3)", "E", "4050"},
		{"fun f () = let exception A exception B of int in fn n => try if n = 0 then raise A else raise B n with A => 1 | B k => k end end val g = f () val _ = print (str (g 0) ^ str (g 7))", "Done", "17"},
		// A name for what has one has its value.
		{"fun f x = let val y = x val z = y fun g w = let val v = w in (x, y, z, v) end in g end val (a, b, c, d) = f 1 2 val _ = print (str a ^ str b ^ str c ^ str d)", "Done", "1112"},
		{"fun f (x as (y as (z, _))) = let val a = x val b = a in case b of c => fn () => (x, y, z, a, c) end end val ((x, _), (_, y), z, (a, _), (_, c)) = f (1, 2) () val _ = print (str x ^ str y ^ str z ^ str a ^ str c)", "Done", "12112"},
	}
}

// Flat programs do what programs mean that are known to end.
func TestP10_3Programs(t *testing.T) {
	for _, r := range append(append(endings(), matchEndings()...), catchEndings()...) {
		r.holds(t, flatDoes(t, r.text))
	}
}

// Every pattern matches what it has to, wherever it stands, and names it.
func TestP10_3Patterns(t *testing.T) {
	for _, text := range matchTexts() {
		doesTheSame(t, text, 1000, flatDoes(t, text))
	}
}

// catchWork is programs whose work is that of catching: a text takes no steps for it.
func catchWork() []string {
	names := func(n int, between string) string {
		var list []string
		for i := range n {
			list = append(list, string(rune('a'+i%26))+strconv.Itoa(i/26))
		}
		return strings.Join(list, between)
	}
	vals := func(n int) string { return "val " + names(n, "=1 val ") + "=1 " }
	knowing := func(n int) string {
		body := " y=(" + names(n, ";") + ";y)"
		return "fun " + names(n, body+" and ") + body
	}
	loop := func(ahead, body string) string {
		return ahead + " fun go n=if n=0 then 0 else(" + body + ";go(n-1))val _=go 20"
	}
	return []string{
		// One function with much to catch.
		loop(vals(250), "fn y=>y+"+names(250, "+")), loop(vals(250), "(fn y=>y+"+names(250, "+")+")1"), loop("val t=("+strings.Repeat("1,", 299)+"1)", "case t of("+names(300, ",")+")=>fn y=>y+"+names(300, "+")+" end"),
		// Functions of one fun that all know one another.
		loop("", "let "+knowing(30)+" in a0 end"), loop("", "let "+knowing(30)+" in a0 1 end"), loop(vals(50), "let "+strings.Repeat("fun f x=x+"+names(50, "+")+" ", 15)+"in f 1 end"),
		// Functions within functions.
		loop("fun f "+names(190, " ")+"="+names(190, "+"), "f"+strings.Repeat(" 1", 190)), loop(vals(150)+"fun f"+strings.Repeat(" _", 150)+"="+names(150, "+"), "f"+strings.Repeat(" 1", 150)), loop(vals(100), strings.Repeat("(fn _=>", 25)+names(100, "+")+strings.Repeat(")", 25)), loop(vals(100), strings.Repeat("(fn _=>", 25)+names(100, "+")+strings.Repeat(")1", 25)),
	}
}

// The bounds of steps hold where the work is that of catching, too.
func TestP10_3Steps(t *testing.T) {
	for _, text := range append(append(uneven(), matchWork()...), catchWork()...) {
		if end := doesTheSame(t, text, api.MaxFuel, flatDoes(t, text)); end != "Done" {
			t.Errorf("%.300s: %s", text, end)
		}
	}
}

// Great texts have flat programs, and those have few slots.
func TestP1FlatGreat(t *testing.T) {
	for _, text := range append(greatTexts(), catchWork()...) {
		for i, f := range flatProgram(t, text).Funs {
			if f.Slots > 2*len(text) || f.Free > len(text)/2 {
				t.Errorf("%.60s: function %d has %d slots, catches %d", text, i, f.Slots, f.Free)
			}
		}
	}
}

// A slot is that of one variable at a time: a function has as many as are needed at once.
func TestP10_2Slots(t *testing.T) {
	side := func(n int) string {
		return "fun f x = (" + strings.Repeat("let val a = x + 1 val b = a in a + b end; ", n) + "x)"
	}
	for _, n := range []int{1, 10, 60} {
		p := flatProgram(t, side(n))
		if len(p.Funs) != 2 || p.Funs[0].Slots != 1 || p.Funs[1].Slots != 1 {
			t.Errorf("%d: %v", n, p)
		}
	}
}
