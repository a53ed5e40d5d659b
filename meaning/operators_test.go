package meaning

import (
	"strconv"
	"strings"
	"testing"

	"mlcore/api"
)

func TestP6_3Numbers(t *testing.T) {
	says(t, "val m = 1000000000",
		row{"2 + 3", "5"}, row{"2 - 3", "~1"}, row{"~2 * 3", "~6"}, row{"~ (~ 4)", "4"}, row{"~ 0", "0"}, row{"~ m", "~1000000000"},
		row{"m - 1 + 1", "1000000000"}, row{"m + 0", "1000000000"}, row{"m + 1", "Overflow"}, row{"1 + m", "Overflow"}, row{"~m + ~1", "Overflow"}, row{"~m - 0", "~1000000000"}, row{"~m - 1", "Overflow"}, row{"0 - m", "~1000000000"}, row{"m - ~1", "Overflow"},
		row{"500000000 * 2", "1000000000"}, row{"500000001 * 2", "Overflow"}, row{"~500000000 * 2", "~1000000000"}, row{"~500000001 * 2", "Overflow"}, row{"m * m", "Overflow"}, row{"~m * m", "Overflow"}, row{"m * ~1", "~1000000000"}, row{"31623 * 31623", "Overflow"}, row{"31622 * 31622", "999950884"},
		row{"7 / 2", "3"}, row{"~7 / 2", "~3"}, row{"7 / ~2", "~3"}, row{"~7 / ~2", "3"}, row{"7 % 2", "1"}, row{"~7 % 2", "~1"}, row{"7 % ~2", "1"}, row{"~7 % ~2", "~1"}, row{"6 % 3", "0"}, row{"0 / 5", "0"}, row{"~m / ~1", "1000000000"},
		row{"1 / 0", "Div"}, row{"0 / 0", "Div"}, row{"1 % 0", "Div"}, row{"~m % 0", "Div"}, row{"1 < 2", "true"}, row{"2 < 2", "false"}, row{"3 < 2", "false"}, row{"1 <= 2", "true"}, row{"2 <= 2", "true"}, row{"3 <= 2", "false"},
		row{"1 > 2", "false"}, row{"2 > 2", "false"}, row{"3 > 2", "true"}, row{"1 >= 2", "false"}, row{"2 >= 2", "true"}, row{"3 >= 2", "true"}, row{"~3 < 2", "true"},
	)
}

func TestP6_3Strings(t *testing.T) {
	hundred := `"` + strings.Repeat("x", 100) + `"`
	says(t, "val h = "+hundred,
		row{`"ab" ^ "cd"`, "abcd"}, row{`"" ^ ""`, ""}, row{"size (h ^ h)", "200"}, row{`size (h ^ h ^ "")`, "200"}, row{`h ^ h ^ "a"`, "Size"}, row{`"a" ^ (h ^ h)`, "Size"}, row{"h ^ h ^ h", "Size"}, row{`"a" ^ "\000\255"`, "a\000\377"},
		row{"size h", "100"}, row{`size ""`, "0"}, row{`size "\n\\\200"`, "3"}, row{`sub ("abc", 0)`, "97"}, row{`sub ("abc", 2)`, "99"}, row{`sub ("\255", 0)`, "255"}, row{`sub ("abc", 3)`, "Bounds"}, row{`sub ("abc", ~1)`, "Bounds"}, row{`sub ("", 0)`, "Bounds"}, row{`sub ("a", 1000000000)`, "Bounds"},
		row{`part ("abcde", 1, 3)`, "bcd"}, row{`part ("abc", 0, 3)`, "abc"}, row{`part ("abc", 3, 0)`, ""}, row{`part ("abc", 0, 0)`, ""}, row{`part ("abc", 4, 0)`, "Bounds"}, row{`part ("abc", ~1, 1)`, "Bounds"}, row{`part ("abc", 1, ~1)`, "Bounds"}, row{`part ("abc", 1, 3)`, "Bounds"}, row{`part ("abc", 0, 4)`, "Bounds"}, row{`part ("abc", 1000000000, 1000000000)`, "Bounds"},
		row{"chr 65", "A"}, row{"chr 0", "\000"}, row{"chr 255", "\377"}, row{"chr 200", "\310"}, row{"chr 256", "Bounds"}, row{"chr ~1", "Bounds"}, row{"size (chr 255)", "1"},
		row{"str 0", "0"}, row{"str 1000000000", "1000000000"}, row{"str ~1000000000", "~1000000000"}, row{"str ~7", "~7"}, row{"not true", "false"}, row{"not false", "true"},
	)
}

func TestP6_3Print(t *testing.T) {
	full := `val s = "` + strings.Repeat("x", 200) + `" fun go n = if n = 0 then () else (print s; go (n - 1)) `
	prints(t, row{`val _ = print "" val _ = print "a\nb\000" val () = print "c"`, "a\nb\000c"}, row{full + `val _ = go 10`, strings.Repeat("x", 2000)}, row{full + `val _ = go 10 val _ = print ""`, strings.Repeat("x", 2000)})
	raises(t, "Size", strings.Repeat("x", 2000), full+`val _ = go 10 val _ = print "a"`, full+"val _ = go 11")
	raises(t, "Size", strings.Repeat("x", 1800)+"abc", full+`val _ = go 9 val _ = print "abc" val _ = print s`)
	prints(t, row{full + `val _ = go 9 val _ = print "abc" val _ = try print s with Size => print "d" end`, strings.Repeat("x", 1800) + "abcd"})
}

func TestP6_3Cells(t *testing.T) {
	says(t, "val r = ref 1 val a = array (3, 7)",
		row{"!r", "1"}, row{"(r := 5; !r)", "5"}, row{"(r := !r + 1; r := !r * 2; !r)", "4"}, row{"let val s = r in (s := 3; !r) end", "3"}, row{"let val s = ref (!r) in (s := 3; !r) end", "1"}, row{"! (! (ref (ref 4)))", "4"}, row{"(case r := 2 of () => !r end)", "2"},
		row{"length a", "3"}, row{"at (a, 0)", "7"}, row{"at (a, 2)", "7"}, row{"at (a, 3)", "Bounds"}, row{"at (a, ~1)", "Bounds"}, row{"(put (a, 2, 9); at (a, 2))", "9"}, row{"(put (a, 2, 9); at (a, 1))", "7"}, row{"(put (a, 3, 1); 0)", "Bounds"}, row{"(put (a, ~1, 1); 0)", "Bounds"}, row{"(case put (a, 0, 1) of () => at (a, 0) end)", "1"},
		row{"length (array (0, 1))", "0"}, row{"length (array (100, 1))", "100"}, row{"length (array (101, 1))", "Size"}, row{"length (array (~1, 1))", "Size"}, row{"length (array (1000000000, 1))", "Size"}, row{"at (array (0, 1), 0)", "Bounds"}, row{"at (array (100, 5), 99)", "5"}, row{"at (array (100, 5), 100)", "Bounds"},
		// All cells hold the same thing, which is not a copy.
		row{"let val b = array (2, ref 1) in (at (b, 0) := 6; ! (at (b, 1))) end", "6"}, row{"let val b = array (2, 1) val c = b in (put (b, 0, 6); at (c, 0)) end", "6"},
	)
	// The functions are values.
	says(t, "fun twice f x = f (f x)",
		row{"twice not true", "true"}, row{"(fn f => f (\"ab\", 1)) sub", "98"}, row{"(fn (f, g) => g (f 12)) (str, size)", "2"}, row{"let val p = (2, 5) val b = array p in at (b, 1) end", "5"}, row{"(fn f => !(f 3)) ref", "3"}, row{"let val [f, g] = [chr, str] in f 65 ^ g 65 end", "A65"},
	)
}

// listed has a function that makes long lists.
const listed = "fun up n = if n = 0 then [] else n :: up (n - 1) "

func TestP6_3Same(t *testing.T) {
	says(t, "data t = A | B of int | C of int | D of t * t data 'a u = V of 'a val r = ref 1 val a = array (2, 0)",
		row{"1 = 1", "true"}, row{"1 = 2", "false"}, row{"1 <> 1", "false"}, row{"1 <> 2", "true"}, row{`"ab" = "ab"`, "true"}, row{`"ab" = "a" ^ "b"`, "true"}, row{`"ab" = "aB"`, "false"}, row{`"" = "a"`, "false"}, row{"() = ()", "true"}, row{"() <> ()", "false"}, row{"true = true", "true"}, row{"true = false", "false"}, row{"1000 * 1000 = 1000000", "true"},
		row{"(1, \"a\") = (1, \"a\")", "true"}, row{"(1, \"a\") = (2, \"a\")", "false"}, row{"(1, \"a\") = (1, \"b\")", "false"}, row{"(1, (2, 3)) <> (1, (2, 4))", "true"}, row{"[1, 2] = [1, 2]", "true"}, row{"[1, 2] = 1 :: 2 :: []", "true"}, row{"[1, 2] = [1]", "false"}, row{"[1] = [1, 2]", "false"}, row{"[1, 2] = [2, 1]", "false"}, row{"[] = [1]", "false"}, row{"([] : int list) = []", "true"}, row{"[[], [1]] = [[], [1]]", "true"},
		row{"A = A", "true"}, row{"A = B 1", "false"}, row{"B 1 = A", "false"}, row{"B 1 = B 1", "true"}, row{"B 1 = B 2", "false"}, row{"B 1 = C 1", "false"}, row{"D (A, B 1) = D (A, B 1)", "true"}, row{"D (A, B 1) = D (B 1, A)", "false"}, row{"V [V 1] = V [V 1]", "true"}, row{"V A <> V (B 0)", "true"},
		row{"r = r", "true"}, row{"ref 1 = ref 1", "false"}, row{"r = ref 1", "false"}, row{"let val s = r in s = r end", "true"}, row{"(r, 1) = (r, 1)", "true"}, row{"ref r = ref r", "false"}, row{"a = a", "true"}, row{"a = array (2, 0)", "false"}, row{"array (0, 1) = array (0, 1)", "false"}, row{"let val e = array (0, 1) in e = e end", "true"}, row{"V r = V r", "true"}, row{"ref (fn x => x) = ref (fn x => x)", "false"},
	)
}

// A list of n numbers takes 3 n + 1 pairs: a constructor, its tuple and a number each, and the end.
func TestP6_3Pairs(t *testing.T) {
	const most = (api.MaxSame - 1) / 3
	says(t, listed+"val a = up "+strconv.Itoa(most)+" val b = up "+strconv.Itoa(most+1)+" val c = 0 :: a",
		row{"a = a", "true"}, row{"a <> a", "false"}, row{"a = up " + strconv.Itoa(most), "true"}, row{"b = b", "Size"}, row{"b <> b", "Size"}, row{"b = a", "false"}, row{"a = b", "false"}, row{"c = b", "false"}, row{"c = c", "Size"},
		// The end of a and what is there of b is the last pair; a number that differs behind it is not come to.
		row{"let fun on l m = case l of [] => m | x :: r => x :: on r m end in on a [1] = on a [] end", "false"}, row{"let fun on l m = case l of [] => m | x :: r => x :: on r m end in on a [1] = on a [2] end", "Size"},
		// A pair of tuples ahead.
		row{"(a, 1) = (a, 1)", "Size"}, row{"(1, a) = (2, a)", "false"}, row{"(b, 1) = (b, 2)", "Size"}, row{"(1, b) = (2, b)", "false"}, row{"[a] = [a]", "Size"}, row{"ref b = ref b", "false"}, row{"let val r = ref b in r = r end", "true"},
	)
	// An element that takes n pairs makes n + 2 of each.
	for element, n := range map[string]int{"1": 1, `"a"`: 1, "()": 1, "true": 1, "A": 1, "B 1": 2, "(1, 2)": 3, "C (1, 2)": 4, "[]": 1, "[1]": 4, "r": 1, "(A, r, ())": 4} {
		most := (api.MaxSame - 1) / (n + 2)
		says(t, "data t = A | B of int | C of int * int val r = ref (1, 2) fun make n = if n = 0 then [] else "+element+" :: make (n - 1) fun f n = make n = make n",
			row{"f " + strconv.Itoa(most), "true"}, row{"f " + strconv.Itoa(most+1), "Size"})
	}
}
