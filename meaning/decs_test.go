package meaning

import "testing"

func TestP6_5Val(t *testing.T) {
	prints(t,
		row{"val (a, b :: _) = (1, [2, 3]) val _ = print (str (a * 10 + b))", "12"}, row{"val a = 1 val a = a + 1 val _ = print (str a)", "2"}, row{"val _ = 1 val () = () val true = true val \"a\" = \"a\"", ""}, row{"val x = 1 fun f y = x + y val x = 5 val _ = print (str (f x))", "6"},
		row{"val (l as [x, y]) = [3, 4] val _ = case l of [a, b] => print (str (a + b + x + y)) end", "14"}, row{"val ((x : int), _) = (1, 2) val _ = print (str x)", "1"},
	)
	raises(t, "Bind", "", "val 1 = 2", "val [] = [1]", "val [x] = []", "val x :: _ = []", "val (1, x) = (2, 3)", "val true = false", "val \"a\" = \"b\"", "data t = A | B val A = B", "val Div = Size", "val _ = let val 1 = 2 in 3 end", "structure A = struct val 1 = 2 end", "fun f x = let val [y] = x in y end val _ = f []")
	raises(t, "Bind", "ab", "val _ = print \"a\" val 1 = (print \"b\"; 2) val _ = print \"c\"")
	raises(t, "Div", "", "val 1 = 1 / 0")
}

func TestP6_5Fun(t *testing.T) {
	says(t, "",
		row{"let fun fact n = if n = 0 then 1 else n * fact (n - 1) in fact 10 end", "3628800"}, row{"let fun fact n = if n = 0 then 1 else n * fact (n - 1) in fact 13 end", "Overflow"}, row{"let fun even n = n = 0 orelse odd (n - 1) and odd n = n <> 0 andalso even (n - 1) in even 101 end", "false"}, row{"let fun f x = g x and g x = h x and h x = x + 1 in f 1 end", "2"},
		row{"let fun f x = 1 fun f x = if x = 0 then 5 else f (x - 1) in f 3 end", "5"}, row{"let fun f x = 1 val g = f fun f x = 2 in g 0 * 10 + f 0 end", "12"}, row{"let fun f f = f + 1 in f 1 end", "2"}, row{"let fun f x y = x * 10 + y val g = f 1 val h = f 2 in g 3 * 100 + h 4 end", "1324"}, row{"let fun f (x, y) [z] (w as _) = x + y + z + w in f (1, 2) [3] 4 end", "10"},
		row{"let fun f x y z = x + y + z val g = f 1 val h = g 2 in h 3 + h 4 + g 5 6 end", "25"}, row{"let fun f x = let fun g y = if y = 0 then x else g (y - 1) in g x end in f 4 end", "4"}, row{"let fun f n = let val m = n + 1 fun g k = if k = 0 then m else f (k - 1) in if n > 2 then m else g n end in f 2 end", "1"}, row{"let val k = 3 fun f x = x + k and g y = f (y * k) val k = 100 in g 2 end", "9"},
		row{"let fun ap f x = f x in ap (ap (fn x => fn y => x - y) 5) 3 end", "2"}, row{"let fun f 0 y = y in (f 0 1) end", "1"}, row{"let fun f 0 y = y val g = f 1 in 2 end", "Match"}, row{"let fun f x 0 = x val g = f 1 in g 1 end", "Match"}, row{"let fun f x 0 = x val g = f 1 in 5 end", "5"}, row{"let fun f x : int = x * 2 in f 4 end", "8"},
	)
}

func TestP6_5Structures(t *testing.T) {
	prints(t,
		row{"structure A = struct val x = (print \"a\"; 1) end val _ = print (str A.x) structure B = A val _ = print (str B.x)", "a11"}, row{"structure A = struct val x = 1 val y = x + 1 val x = 5 end val _ = print (str (A.x * 10 + A.y))", "52"}, row{"val x = 3 structure A = struct val y = x val x = 4 end val _ = print (str (x * 100 + A.x * 10 + A.y))", "343"},
		row{"structure A = struct structure B = struct val x = 1 fun f y = x + y end val z = B.f 5 end val _ = print (str (A.B.f A.z))", "7"}, row{"structure A = struct val x = 1 structure A = struct val x = 2 end val y = A.x end val _ = print (str (A.x * 100 + A.A.x * 10 + A.y))", "122"}, row{"structure A = struct val x = 1 end structure A = struct val y = A.x + 1 end val _ = print (str A.y)", "2"},
		row{"structure A = struct fun f n = if n = 0 then 0 else g n and g n = f (n - 1) + 1 end val _ = print (str (A.f 5))", "5"}, row{"structure A = struct val r = ref 1 end structure B = A val _ = B.r := 4 val _ = print (str (!A.r))", "4"}, row{"structure A = struct data t = X | Y of int fun f X = 1 end val _ = print (case A.Y 3 of A.X => \"x\" | A.Y n => str n end)", "3"},
		row{"structure A = struct exception E of int fun f x = raise E x end val _ = print (str (try A.f 4 with A.E n => n end))", "4"}, row{"structure A = struct val print = fn x => print (x ^ \"!\") end val _ = A.print \"a\" val _ = print \"b\"", "a!b"},
		// A structure's names are those that were there where it stood.
		row{"val n = 1 structure A = struct fun f x = x + n end val n = 10 val _ = print (str (A.f n))", "11"},
	)
}

func TestP6_5Open(t *testing.T) {
	prints(t,
		row{"structure A = struct val x = 1 structure B = struct val y = 2 end end val x = 5 val y = 6 open A val _ = print (str (x * 10 + y)) open B val _ = print (str (x * 10 + y))", "1612"}, row{"structure A = struct val x = 1 end val _ = print (str (let open A in x end)) val x = 2 val _ = print (str (let val x = 3 open A val y = x in y + x end + x))", "14"},
		row{"structure A = struct val x = 1 end structure B = struct open A val y = x + 1 end val _ = print (str (B.x + B.y))", "3"}, row{"structure A = struct exception E data t = C of int end open A val _ = print (try raise E with A.E => \"e\" end) val _ = case A.C 2 of C n => print (str n) end", "e2"}, row{"structure A = struct val x = 1 end structure B = struct val x = 2 end open A open B open A val _ = print (str x)", "1"},
		row{"structure A = struct fun not x = 5 end open A val _ = print (str (not true))", "5"}, row{"structure A = struct structure A = struct val x = 7 end val x = 8 end open A open A val _ = print (str x)", "7"}, row{"structure A = struct val x = 1 end fun f y = let open A in x + y end val _ = print (str (f 1 + f 2))", "5"},
	)
}

func TestP6_5Signatures(t *testing.T) {
	prints(t,
		// What is hidden is evaluated, but is not brought by open.
		row{"structure A : sig val x : int end = struct val x = (print \"x\"; 1) val y = (print \"y\"; 2) end val y = 7 open A val _ = print (str (x + y))", "xy8"}, row{"structure A :> sig val x : int end = struct val x = 1 val y = 2 end val y = 7 open A val _ = print (str (x + y))", "8"}, row{"signature S = sig val f : int -> int end structure A : S = struct val k = 3 fun g x = x * k fun f x = g x + 1 end val k = 0 fun g x = 0 open A val _ = print (str (f 2 + g 1 + k))", "7"},
		row{"structure A : sig structure B : sig val x : int end end = struct structure B = struct val x = 1 val y = 2 end structure C = struct end val z = 3 end val y = 4 val z = 5 structure C = struct val y = 6 end open A open B open C val _ = print (str (x * 100 + y * 10 + z))", "165"}, row{"structure A : sig end = struct fun print x = x end open A val _ = print \"a\"", "a"},
		row{"structure A = struct val x = 1 val y = 2 end structure B : sig val y : int end = A val x = 5 open B val _ = print (str (x * 10 + y)) open A val _ = print (str (x * 10 + y))", "5212"}, row{"exception E structure A : sig end = struct exception E end val _ = let open A in print (try raise E with E => \"e\" end) end", "e"}, row{"data t = X of int structure A : sig type t val v : t val f : t -> int end = struct data t = X of int | Y val v = X 3 fun f (X n) = n end open A val _ = case X 5 of X n => print (str (n + f v)) end", "8"},
		row{"structure A :> sig type t val make : int -> t val get : t -> int end = struct type t = int fun make n = n + 1 fun get n = n end val _ = print (str (A.get (A.make 1)))", "2"},
		// The signature that was there.
		row{"signature S = sig val x : int end signature T = sig structure A : S end signature S = sig val x : int val y : int end structure B : T = struct structure A = struct val x = 1 val y = 2 end end val y = 9 open B.A val _ = print (str (x + y))", "10"},
	)
	// The exceptions of a signature are the structure's own.
	prints(t, row{"structure A : sig exception E of int val f : unit -> int end = struct exception E of int fun f () = raise E 3 end val _ = print (str (try A.f () with A.E n => n end))", "3"}, row{"structure A :> sig exception E val e : exn end = struct exception E val e = E exception E end val _ = print (case A.e of A.E => \"same\" | _ => \"other\" end)", "other"})
	// A data of a signature names the constructors by themselves.
	const hides = "data t = L | N of int * t fun sum L = 0 fun sum t = case t of L => 0 | N (n, r) => n + sum r end exception L exception N of int"
	for _, mark := range []string{":", ":>"} {
		prints(t,
			row{"structure A " + mark + " sig data t = L | N of int * t val sum : t -> int end = struct " + hides + " end val _ = print (str (A.sum (A.N (1, A.N (2, A.L))))) val _ = case A.N (5, A.L) of A.N (n, A.L) => print (str n) end", "35"},
			row{"structure A " + mark + " sig structure B : sig data t = L | N of int * t val sum : t -> int end end = struct structure B = struct " + hides + " end end open A.B val _ = print (str (sum (N (1, N (2, L)))))", "3"},
			row{"signature S = sig data t = P of t | Q data u = R | T of t val f : u -> int end structure A " + mark + " S = struct data t = P of t | Q data u = R | T of t fun f x = case x of T (P Q) => 1 | T _ => 2 | R => 3 end val _ = Q end val _ = print (str (A.f (A.T (A.P A.Q)) * 100 + A.f (A.T A.Q) * 10 + A.f A.R))", "123"},
		)
	}
}
