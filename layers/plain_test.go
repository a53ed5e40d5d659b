package layers

import (
	"fmt"
	"slices"
	"strconv"
	"strings"
	"testing"

	"mlcore/api"
	"mlcore/plain"
)

// plainTerm is the plain term of a program, which has the form of P9.2.
func plainTerm(t *testing.T, text string) api.Term {
	t.Helper()
	x, f := plain.Plain(text)
	if f != (api.Fault{}) {
		t.Fatalf("%s: %v", text, f)
	}
	if s := (plainForm{}).fault(x); s != "" {
		t.Fatalf("%s: %s in %v", text, s, x)
	}
	return x
}

func plainDoes(t *testing.T, text string) func(steps int) api.Outcome {
	t.Helper()
	x := plainTerm(t, text)
	return func(steps int) api.Outcome { return slowPlain(x, steps) }
}

// The plain terms of random programs have the form, and every op of it.
func TestP9_2Random(t *testing.T) {
	t.Parallel()
	ops, kinds := map[int]int{}, map[int]int{}
	for seed := range 500 {
		if _, text, _, ok := random(seed); ok {
			count(plainTerm(t, text), ops, kinds)
		}
	}
	for op := range api.TFail + 1 {
		if _, _, asked := kidsOf(op); asked && ops[op] < 100 {
			t.Errorf("%d terms of op %d", ops[op], op)
		}
	}
}

// The plain terms of random programs do what these mean.
func TestP9_3Random(t *testing.T) {
	t.Parallel()
	ends := map[string]int{}
	for seed := range 2000 {
		if _, text, _, ok := random(seed); ok {
			ends[doesTheSame(t, text, 3000, plainDoes(t, text))]++
		}
	}
	comesTo(t, ends)
}

// matchEndings is programs that are known to end as they do by their matches.
func matchEndings() []knownEnd {
	return []knownEnd{
		{"data t = A of int | B data u = C of t * u | D fun f (C (A n, C (B, u))) = print (str n) val _ = f (C (A 7, C (B, D))) val _ = f D", "Match", "7"},
		{"exception E of int * int fun f x = try raise x with E (1, n) => n | E (n, _) => n * 100 | Div => 5 end val _ = print (str (f (E (1, 2)) + f (E (3, 4)) + f Div)) val _ = f Size", "Size", "307"},
		// A match within a match fails for itself.
		{"fun f (x, y) = case x of 1 => case y of 1 => 11 | 2 => 12 end | _ => 2 end val _ = print (str (f (1, 2) + f (2, 3))) val _ = f (1, 3)", "Match", "14"},
		{"fun f x = case case x of 1 => 2 | 2 => 3 end of 2 => 4 | _ => 5 end val _ = print (str (f 1 * 10 + f 2)) val _ = f 3", "Match", "45"},
		{"fun f x = case x of 1 => let val 2 = x in 3 end | _ => 4 end val _ = print (str (f 2)) val _ = f 1", "Bind", "4"},
		{"val _ = print (try case 1 of 2 => \"a\" end with Match => try raise Div with Size => \"b\" end | Div => \"c\" end)", "Div", ""},
		{"val _ = print (try try raise Div with Size => \"a\" end with Div => \"b\" end)", "Done", "b"},
		{"val f = case 1 of 1 => fn 2 => 3 | _ => fn x => x end val _ = f 1", "Match", ""},
		// Numbers and blocks are told apart, and so are the tags of blocks.
		{"data t = A | B of int | C | D of int fun f x = case x of A => 1 | B _ => 2 | C => 3 | D 0 => 4 | D n => n end val _ = print (str (f A) ^ str (f (B 0)) ^ str (f C) ^ str (f (D 0)) ^ str (f (D 9)))", "Done", "12349"},
		{"data t = A of int | B of int val _ = if A 1 = B 1 orelse A 1 <> A 1 orelse [A 1] = [B 1] orelse (1, ()) <> (1, ()) then print \"a\" else print \"b\"", "Done", "b"},
		// Exceptions from the beginning are told apart from a program's own.
		{"exception Bind fun f x = try x () with Bind => \"own\" | Match => \"m\" end val _ = print (f (fn () => raise Bind)) val _ = print (f (fn () => case 1 of 2 => \"\" end)) val _ = f (fn () => let val 1 = 2 in \"\" end)", "Bind", "ownm"},
		// Size is raised just where the meaning raises it.
		{"fun up n = if n = 0 then [] else n :: up (n - 1) val a = up 333 val b = up 334 val _ = print (if a = a then \"a\" else \"b\") val _ = b = b", "Size", "a"},
	}
}

// Plain terms do what programs mean that are known to end.
func TestP9_3Programs(t *testing.T) {
	for _, r := range append(endings(), matchEndings()...) {
		r.holds(t, plainDoes(t, r.text))
	}
}

// matchWork is programs whose work is that of patterns: a text takes no steps for it.
func matchWork() []string {
	const begin = "fun up n=if n=0 then[]else 1::up(n-1)fun ds n=if n=0 then[]else Div::ds(n-1)val x=1 val l=up 150 val m=ds 150 "
	loop := func(ahead, body string) string {
		return begin + ahead + " fun go n=if n=0 then 0 else(" + body + ";go(n-1))val _=go 20"
	}
	row := func(part string, n int) string { return strings.TrimSuffix(strings.Repeat(part+",", n), ",") }
	rules := func(rule string, n int) string { return strings.Repeat(rule+"|", n) }
	return []string{
		// Long patterns, which match, or fail at their ends.
		loop("", "case l of["+row("1", 150)+"]=>1 end"), loop("", "case l of["+row("_", 150)+"]=>1 end"), loop("", "case l of["+row("1", 149)+",2]=>1|["+row("1", 151)+"]=>1|_=>2 end"), loop("", "case m of["+row("Div", 149)+",Size]=>1|_=>2 end"),
		loop("val t=("+row("1", 300)+")", "case t of("+row("1", 299)+",2)=>1|("+row("_", 299)+",a)=>a end"), loop("val t=("+row(`""`, 200)+")", "case t of("+row(`""`, 199)+`,"a")=>1|(a,`+row("_", 199)+")=>1 end"), loop("fun f"+strings.Repeat(" 1", 150)+"=1", "f"+strings.Repeat(" 1", 150)),
		// The longest one: its parts are not looked for from the beginning of the list each time.
		"fun up n=if n=0 then[]else 1::up(n-1)val l=up 1700 fun go n=if n=0 then 0 else(case l of[" + row("1", 1700) + "]=>1 end;go(n-1))val _=go 200",
		// Many patterns.
		loop("", "case x of "+rules("2=>1", 500)+"_=>2 end"), loop("", "case Div of "+rules("Size=>1", 300)+"_=>2 end"), loop("", "case l of "+rules("[1,1,2]=>1", 200)+"_=>2 end"), loop("", "try 1/0 with "+rules("Size=>1", 300)+"_=>2 end"),
		loop("", strings.Repeat("try ", 50)+"1/0"+strings.Repeat(" with Size=>1 end", 49)+" with Div=>2 end"), loop("", "let "+strings.Repeat("val[]=[]val(a,b)=(1,2)val(c as 1)=1 ", 80)+" in 1 end"),
	}
}

// The bounds of steps hold where the work is that of patterns, too.
func TestP9_3Steps(t *testing.T) {
	for _, text := range append(uneven(), matchWork()...) {
		if end := doesTheSame(t, text, api.MaxFuel, plainDoes(t, text)); end != "Done" {
			t.Errorf("%.300s: %s", text, end)
		}
	}
}

// told is a pattern, and a string that tells what it has named.
type told struct{ pat, text string }

// matchings is patterns, and values of their type.
var matchings = []struct {
	pats   []told
	values []string
}{
	{[]told{{"_", `"y"`}, {"0", `"y"`}, {"1", `"y"`}, {"~1", `"y"`}, {"1000000000", `"y"`}, {"x", "str x"}, {"(x as 1)", "str x"}, {"(x as (y as _))", "str (x + y)"}}, []string{"0", "1", "~1", "1000000000"}},
	{[]told{{`""`, `"y"`}, {`"a"`, `"y"`}, {`"b\000"`, `"y"`}, {"x", "x"}, {`(x as "a")`, "x"}}, []string{`""`, `"a"`, `"b\000"`, `("b" ^ chr 0)`}},
	{[]told{{"true", `"y"`}, {"false", `"y"`}, {"(x as true)", `if x then "y" else "n"`}}, []string{"true", "false", "(1 < 2)", "(1 = 2)", "(not true)"}},
	{[]told{{"()", `"y"`}, {"(x as ())", `if x = () then "y" else "n"`}, {"_", `"y"`}}, []string{"()", `(print "")`, "(ref 1 := 2)"}},
	{[]told{{"(_, _)", `"y"`}, {"(x, _)", "str x"}, {"(1, x)", "x"}, {`(x, "a")`, "str x"}, {`(1, "a")`, `"y"`}, {"(x as (y, z))", `if x = (y, z) then z else "n"`}}, []string{`(1, "a")`, `(2, "a")`, `(1, "b")`, `(2, "b")`}},
	{[]told{{"((_, 1), _)", `"y"`}, {"((x, _), (y, (z, _)))", "str (x * 100 + y * 10 + z)"}, {"(_, (1, (_, 2)))", `"y"`}, {"((x as (1, y)), _)", "if x = (1, y) then str y else \"n\""}}, []string{"((1, 2), (3, (4, 5)))", "((1, 1), (1, (1, 1)))", "((5, 1), (1, (3, 2)))"}},
	{[]told{{"[]", `"y"`}, {"[_]", `"y"`}, {"[1, _]", `"y"`}, {"(1 :: _)", `"y"`}, {"(_ :: _)", `"y"`}, {"(_ :: [2])", `"y"`}, {"[x]", "str x"}, {"(x :: y :: r)", "str (x * 10 + y) ^ str (sum r)"}, {"(l as 1 :: (r as _))", "str (sum l) ^ str (sum r)"}, {"[x, 2, y]", "str (x - y)"}}, []string{"[]", "[1]", "[2]", "[1, 2]", "[2, 2]", "[3, 2, 1]", "[1, 2, 3, 4]"}},
	{[]told{{"A", `"y"`}, {"(B _)", `"y"`}, {"(B 1)", `"y"`}, {"(C _)", `"y"`}, {"(C (A, A))", `"y"`}, {"(C (_, B 2))", `"y"`}, {"(C (C (A, _), A))", `"y"`}, {"(B x)", "str x"}, {"(C (B x, B y))", "str (x * 10 + y)"}, {"(C ((x as B 1), y))", `if x = y then "same" else "other"`}, {"(C x)", `if x = (A, A) then "both" else "other"`}}, []string{"A", "(B 1)", "(B 2)", "(C (A, A))", "(C (B 1, B 1))", "(C (B 1, B 2))", "(C (C (A, A), A))"}},
	{[]told{{"(U 1)", `"y"`}, {"(U _)", `"y"`}, {"(U x)", "str x"}, {"((x as U y))", `if x = U y then str y else "n"`}}, []string{"(U 1)", "(U 2)"}},
	{[]told{{"W", `"y"`}, {"(x as W)", `if x = W then "y" else "n"`}}, []string{"W"}},
	{[]told{{"E", `"y"`}, {"Div", `"y"`}, {"Match", `"y"`}, {"(F _)", `"y"`}, {"(F 1)", `"y"`}, {"(F x)", "str x"}, {"(G (x, F y))", "str (x * 10 + y)"}, {"(G (1, Div))", `"y"`}, {"(G _)", `"y"`}, {"(x as G (1, (y as E)))", "try raise x with G (n, z) => str n end"}}, []string{"E", "Div", "Match", "Bind", "(F 1)", "(F 2)", "(G (1, F 2))", "(G (1, Div))", "(G (1, E))", "(G (2, G (1, E)))"}},
}

// matchTexts is programs with each of these patterns in a case, a fn, a fun, a val and a try.
func matchTexts() (all []string) {
	const ahead = "data t = A | B of int | C of t * t data u = U of int data w = W exception E exception F of int exception G of int * exn fun sum l = case l of [] => 0 | x :: r => x + sum r end val _ = print ("
	for _, m := range matchings {
		for _, v := range m.values {
			for i, p := range m.pats {
				q := m.pats[(i+1)%len(m.pats)]
				texts := []string{
					"case " + v + " of " + p.pat + " => " + p.text + ` | _ => "no" end`, "try (fn " + p.pat + " => " + p.text + ") " + v + ` with Match => "no" end`, "try let val " + p.pat + " = " + v + " in " + p.text + ` end with Bind => "no" end`,
					"try let fun f " + p.pat + " = " + p.text + " in f " + v + ` end with Match => "no" end`, "let val v = " + v + " in case v of " + p.pat + " => " + p.text + ` | _ => "no" end end`,
					"try case " + v + " of " + p.pat + " => " + p.text + " | " + q.pat + " => \"2\" ^ (" + q.text + `) end with Match => "no" end`,
				}
				if m.values[0] == "E" {
					texts = append(texts, "try try raise "+v+" with "+p.pat+" => "+p.text+` end with _ => "no" end`, "try raise "+v+" with "+p.pat+" => "+p.text+" | "+q.pat+" => \"2\" ^ ("+q.text+") end")
				}
				for _, text := range texts {
					all = append(all, ahead+text+")")
				}
			}
		}
	}
	return all
}

// Every pattern matches what it has to, wherever it stands, and names it.
func TestP9_3Patterns(t *testing.T) {
	outs := map[string]int{}
	for _, text := range matchTexts() {
		doesTheSame(t, text, 1000, plainDoes(t, text))
		outs[slowPlain(plainTerm(t, text), 1000).Out]++
	}
	for _, out := range []string{"y", "no", "1", "2y", "same", "other", "both", "321", "134", "12"} {
		if outs[out] == 0 {
			t.Errorf("no pattern that tells %s: %v", out, outs)
		}
	}
}

// The values of a plain term are numbers, strings, functions, cells, exceptions and blocks.
func TestP9_2Values(t *testing.T) {
	const ahead = "data t = A | B of int | C | D of int * int | F of t data u = U of int "
	for _, r := range [][2]string{
		{"7", "7"}, {"~7", "-7"}, {`"7"`, `"7"`}, {"()", "0"}, {"false", "0"}, {"true", "1"}, {"1 < 2", "1"}, {"1 = 2", "0"}, {"1 = 1 andalso 1 = 2", "0"}, {"1 = 1 orelse 1 = 2", "1"}, {"not true", "0"}, {`print ""`, "0"}, {"ref 1 := 2", "0"}, {"put (array (1, 1), 0, 2)", "0"},
		{"(1, 2)", "0(1 2)"}, {"((1, 2), (), \"a\")", `0(0(1 2) 0 "a")`}, {"A", "0"}, {"C", "2"}, {"B 5", "1(5)"}, {"D (3, 4)", "3(0(3 4))"}, {"F (F C)", "4(4(2))"}, {"U 3", "0(3)"}, {"B", "a function"}, {"(fn f => f (1, 2)) D", "3(0(1 2))"},
		{"[]", "0"}, {"[1]", "1(0(1 0))"}, {"1 :: 2 :: []", "1(0(1 1(0(2 0))))"}, {"[true, false]", "1(0(1 1(0(0 0))))"},
		{"Match", "0(Match)"}, {"Bind", "0(Bind)"}, {"Overflow", "0(Overflow)"}, {"Div", "0(Div)"}, {"Bounds", "0(Bounds)"}, {"Size", "0(Size)"}, {"let exception E in E end", "0(E)"}, {"let exception E of int in E 4 end", "0(E 4)"}, {"let exception E of int * int in (fn f => f (4, 5)) E end", "0(E 0(4 5))"}, {"let exception E of unit in E () end", "0(E 0)"},
		{"fn x => x", "a function"}, {"print", "a function"}, {"let fun f x = x in f end", "a function"}, {"ref 1", "cells"}, {"array (2, 1)", "cells"}, {"!(ref (1, 2))", "0(1 2)"}, {"(1; 2)", "2"}, {"sub (\"a\", 0)", "97"},
		{"try raise Div with x => x end", "0(Div)"}, {"try str (1 / 0) with x => str 1 end", `"1"`}, {"try raise (case 1 of 2 => Size end) with x => x end", "0(Match)"}, {"try let val 1 = 2 in Size end with x => x end", "0(Bind)"}, {"let exception E of int in try raise E 1 with Div => Div | x => x end end", "0(E 1)"},
	} {
		// A program of one val is a TLet.
		x := plainTerm(t, ahead+"val x = "+r[0])
		s := newSlowPlains(1000)
		if got := writtenValue(s.term(x.Kids[0], s.exceptions())); x.Op != api.TLet || got != r[1] {
			t.Errorf("%s: %s, want %s", r[0], got, r[1])
		}
	}
}

// writtenValue writes a value of a plain term; a block as its tag with its fields behind it.
func writtenValue(v any) string {
	switch v := v.(type) {
	case int:
		return strconv.Itoa(v)
	case string:
		return strconv.Quote(v)
	case slowFn:
		return "a function"
	case *slowCell:
		return "cells"
	case *slowExnID:
		return v.name
	case *plainBlock:
		var l []string
		for _, f := range v.fields {
			l = append(l, writtenValue(f))
		}
		return strconv.Itoa(v.tag) + "(" + strings.Join(l, " ") + ")"
	}
	return fmt.Sprintf("%T", v)
}

// greatTexts is texts as long and as deep as they may be.
func greatTexts() []string {
	fill := func(front, part, back string) string {
		return front + strings.Repeat(part, (api.MaxText-len(front)-len(back))/len(part)) + back
	}
	var names []string
	for i := range 199 {
		names = append(names, fmt.Sprintf("a%d", i))
	}
	deep := func(open, inner, close string) string {
		return strings.Repeat(open, 55) + inner + strings.Repeat(close, 55)
	}
	return []string{
		"", fill("", "val x=1 ", ""), fill("", "val[]=[]", ""), fill("", "val _=1 ", ""), fill("", "fun f 1=1 ", ""), fill("", "exception E ", ""), fill("val x=[1", ",1", "]"), fill("val x=1", "+1", ""), fill("val x=(1", ";1", ")"), fill("fun f x=f x val x=f", " 1", ""),
		fill("fun f[1", ",1", "]=1"), fill("fun f[_", ",_", "]=1"), fill("fun f(1", "::1", "::_)=1"), fill("exception E fun f[E", ",E", "]=1"), fill("fun f[[]", ",[]", "]=1"), fill("fun f[()", ",()", "]=1"), fill(`fun f[""`, `,""`, `]=1`), fill("fun f x=case x of 1=>1", "|1=>1", " end"), fill("fun f x=case x of _=>1", "|_=>1", " end"), fill("fun f x=case x of[1]=>1", "|[1]=>1", " end"), fill("fun f x=try x with Div=>1", "|Div=>1", " end"),
		"fun f" + strings.Repeat(" 1", 199) + " = 1", "fun f " + deep("[", "1", "]") + "=1", "fun f " + deep("(_,", "x", ")") + "=1", "fun f " + deep("(_,", "_", ")") + "=1", "data t = U of t | V fun f " + deep("(U", " V", ")") + "=1", "data t = U of t * int fun f " + strings.Repeat("(U(", 28) + "x" + strings.Repeat(",_))", 28) + "=1",
		"fun f (" + strings.Join(names, ", ") + ") = a198", "fun f (" + strings.Join(names, " :: ") + ") = a198", "fun f x = " + strings.Repeat("case x of 1 => ", 50) + "1" + strings.Repeat(" end", 50), "fun f x = " + strings.Repeat("case ", 50) + "x" + strings.Repeat(" of 1 => 1 | 2 => 2 end", 50), "fun f x = " + strings.Repeat("try ", 50) + "x" + strings.Repeat(" with Div => 1 end", 50),
	}
}

// Great texts have plain terms which are not much longer.
func TestP1PlainGreat(t *testing.T) {
	for _, text := range greatTexts() {
		ops := map[int]int{}
		count(plainTerm(t, text), ops, map[int]int{})
		if parts := sumOf(ops); parts > 10*len(text)+10 {
			t.Errorf("%.60s: %d parts of %d bytes", text, parts, len(text))
		}
	}
}

func sumOf(counts map[int]int) (sum int) {
	for _, n := range counts {
		sum += n
	}
	return sum
}

// Each variable of a plain term is bound at one place.
func TestP9_2Variables(t *testing.T) {
	for seed := range 200 {
		_, text, _, ok := random(seed)
		if !ok {
			continue
		}
		l := boundIn(plainTerm(t, text))
		slices.Sort(l)
		if len(slices.Compact(slices.Clone(l))) != len(l) {
			t.Fatalf("%s: %v", text, l)
		}
	}
}

func boundIn(x api.Term) []int {
	l := slices.Clone(x.Ns)
	if x.Op == api.TNewExn {
		l = append(l, x.N)
	}
	for _, p := range x.Pats {
		l = append(l, p.N)
	}
	for _, k := range x.Kids {
		l = append(l, boundIn(k)...)
	}
	return l
}
