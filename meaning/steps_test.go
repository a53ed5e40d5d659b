package meaning

import "testing"

func TestP6_2Steps(t *testing.T) {
	takes(t, 0, "", "fun f x = x exception E data t = A type u = int signature S = sig end structure A = struct end open A")
	takes(t, 1, "val x = 1", `val x = "a"`, "val x = ()", "val x = []", "val x = true", "val x = Div", "val x = print", "val x = fn y => 1 / 0", "val 1 = 2")
	takes(t, 2,
		"val x = (1 : int)", "val x = ~ 1", "val x = false andalso true", "val x = true orelse true", "val x = case 1 of 2 => 3 end", "val x = try 1 with _ => 2 end",
		"val x = raise Div", "val x = let in 1 end", "val x = let fun f x = x exception E in 1 end",
	)
	takes(t, 3,
		"val x = (1, 2)", "val x = (1; 2)", "val x = ((1 : int) : int)", "val x = 1 + 2", "val x = 1 :: []", "val x = 1 = 2", "val x = 1 / 0", "exception E of int val x = E 1", "val x = not true",
		"val x = if true then 1 else 2", "val x = if false then 1 else 2", "val x = true andalso true", "val x = false orelse true", "val x = case 1 of 2 => 3 | _ => 4 end", "val x = try raise Div with Size => 1 end", "val x = let val y = 1 in y end",
	)
	takes(t, 4, "val x = [1, 2, 3]", "val x = (1; 2; 3)", "val x = ! (ref 1)", "val x = (fn y => y) 1", "val x = try raise Div with Size => 1 | Div => 2 end")
	takes(t, 5, "val x = ref 1 := 2", "val x = 1 + 2 * 3", "data t = A of int * int val x = A (1, 2)", "val x = if not false then 1 else 2")
	takes(t, 7, "val _ = print (str (1 + 2))")
	// Of a fun: each application but the last takes one more.
	takes(t, 4, "fun f x = x val y = f 1", "fun f x y = x val z = f 1")
	takes(t, 5, "fun f x : int = x val y = f 1")
	takes(t, 7, "fun f x y = x val z = f 1 2", "fun f x = fn y => x val z = f 1 2", "fun f x y z = x val u = f 1 2")
	takes(t, 10, "fun f x y z = x val u = f 1 2 3")
	// The pattern is matched ahead of that.
	takes(t, 3, "fun f 1 y = y val z = f 2", "fun f 1 = 2 val z = f 2")
	takes(t, 4, "fun f 1 y = y val z = f 1")
	takes(t, 6, "fun f x 1 = x val z = f 2 3")
	// Structures take none of their own.
	takes(t, 3, "structure A = struct val x = 1 structure B = struct val y = 2 end end structure C = A open C.B val z = y")
}

// What is evaluated prints its number.
const tell = "fun p n = (print (str n); n) fun q n x = (print (str n); x) "

func TestP6_2Order(t *testing.T) {
	prints(t,
		row{tell + "val _ = (p 1, p 2, p 3)", "123"}, row{tell + "val _ = [p 1, p 2, p 3]", "123"}, row{tell + "val _ = (p 1; p 2; p 3)", "123"}, row{tell + "val _ = p 1 - p 2 * p 3", "123"},
		row{tell + "val _ = (p 1 - p 2) * p 3", "123"}, row{tell + "val _ = q 1 (fn x => q 3 x) (p 2)", "123"}, row{tell + "val _ = q 1 (fn x => q 3 (fn y => p 5)) (p 2) (p 4)", "12345"}, row{tell + "val _ = p 1 :: p 2 :: [p 3]", "123"},
		row{tell + "val _ = q 1 (ref 0) := p 2", "12"}, row{tell + "val _ = (p 1, q 2 5) = (p 3, 5)", "123"}, row{tell + "val _ = q 1 \"a\" ^ q 2 \"b\"", "12"}, row{tell + "val _ = p 1 < p 2", "12"},
		row{tell + "val _ = if q 1 true then p 2 else p 3", "12"}, row{tell + "val _ = if q 1 false then p 2 else p 3", "13"}, row{tell + "val _ = q 1 true andalso q 2 false", "12"}, row{tell + "val _ = q 1 false andalso q 2 true", "1"}, row{tell + "val _ = q 1 true orelse q 2 true", "1"}, row{tell + "val _ = q 1 false orelse q 2 true", "12"},
		row{tell + "val _ = case p 2 of 1 => p 3 | 2 => p 4 | _ => p 5 end", "24"}, row{tell + "val _ = try (p 1; raise q 2 Div) with Size => p 3 | Div => p 4 end", "124"}, row{tell + "val _ = try p 1 with _ => p 2 end", "1"},
		row{tell + "val _ = let val a = p 1 val b = p 2 in p 3 end", "123"}, row{tell + "val _ = (p 1 : int)", "1"}, row{tell + "val _ = put (q 1 (array (1, 0)), p 0, p 2)", "102"},
		row{tell + "val a = p 1 structure A = struct val a = p 2 structure B = struct val b = p 3 end val c = p 4 end val b = p 5", "12345"},
		// A function that cannot be applied to its argument is found out behind it.
		row{tell + "val _ = try (p 1; fn 1 => 2) (p 3) with Match => p 4 end", "134"}, row{tell + "val _ = try 1 / 0 + p 1 with Div => p 2 end", "2"}, row{tell + "val _ = try p 1 / (p 2 - 2) with Div => p 3 end", "123"},
		row{tell + "val _ = try (raise Div) (p 1) with _ => 2 end", ""}, row{tell + "val _ = try (p 1, raise Div, p 2) with _ => (3, 4, 5) end", "1"}, row{tell + "val _ = try [p 1, raise Div, p 2] with _ => [] end", "1"}, row{tell + "val _ = try (p 1; raise Div; p 2) with _ => 3 end", "1"},
	)
}

func TestP6_2Names(t *testing.T) {
	says(t, "",
		row{"let val x = 1 fun f y = x + y val x = 10 in f x end", "11"}, row{"let val x = 1 val x = x + 1 val x = x * 5 in x end", "10"}, row{"(fn x => fn y => fn x => x * 10 + y) 1 2 3", "32"}, row{"(fn f => f 1 + f 2) (let val k = 10 in fn x => x * k end)", "30"},
		row{"let fun make n = fn () => n val a = make 1 val b = make 2 in a () * 10 + b () end", "12"}, row{"let val c = let val n = ref 0 in fn () => (n := !n + 1; !n) end in c () * 100 + c () * 10 + c () end", "123"},
		row{"case (1, 2) of (x, y) => (case (y, x) of (x, y) => x * 10 + y end) * 100 + x * 10 + y end", "2112"}, row{"let val x = 1 in let val x = 2 in x end + x end", "3"}, row{"let fun f x = let val y = x in if x = 0 then 0 else y + f (x - 1) + y end in f 3 end", "12"},
	)
}

func TestP6_2Exceptions(t *testing.T) {
	says(t, "exception A exception B of int",
		row{"try raise A with B n => n | A => 7 end", "7"}, row{"try raise B 3 with A => 1 | B n => n end", "3"}, row{"try raise B 3 with B 4 => 1 | B _ => 2 end", "2"}, row{"try raise B 3 with B 4 => 1 end", "B"}, row{"try raise A with B _ => 1 end", "A"},
		row{"try try raise A with B n => n end with A => 5 end", "5"}, row{"try try raise A with A => raise B 6 end with B n => n | A => 0 end", "6"}, row{"try try raise A with A => raise A end with A => 8 end", "8"}, row{"try raise A with A => raise Div end", "Div"},
		row{"1 + (try 2 + (raise B 4) with B n => n * 2 end)", "9"}, row{"try (fn x => raise x) A with y => (try raise y with A => 4 end) end", "4"}, row{"try (try 1 with A => 2 end) + (raise A) with A => 3 end", "3"},
		row{"let fun f n = if n = 0 then raise B 9 else 1 + f (n - 1) in try f 50 with B n => n end end", "9"}, row{"case (try (1, raise A) with A => (2, 3) end) of (a, b) => a * 10 + b end", "23"}, row{"(raise A) : int", "A"}, row{"raise (raise A)", "A"},
		row{"let val r = ref 1 in (try (r := 2; raise A) with A => r := !r * 10 end; !r) end", "20"},
	)
	// What stands in the rules of a try is not tried.
	raises(t, "Size", "", "val _ = try raise Div with Div => raise Size | Size => 1 end")
}
