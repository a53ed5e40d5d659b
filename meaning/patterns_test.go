package meaning

import "testing"

func TestP6_4Patterns(t *testing.T) {
	says(t, "data t = A | B of int | C of t * int",
		row{"case 5 of _ => 1 end", "1"}, row{"case 5 of x => x end", "5"}, row{"case 5 of 4 => 1 | 5 => 2 end", "2"}, row{"case ~3 of 3 => 1 | ~3 => 2 end", "2"}, row{"case 1000000000 of 1000000000 => 1 end", "1"}, row{"case 5 of 4 => 1 end", "Match"},
		row{`case "ab" of "a" => 1 | "ab" => 2 end`, "2"}, row{`case "" of "a" => 1 | "" => 2 end`, "2"}, row{`case "a" ^ "b" of "ab" => 1 end`, "1"}, row{"case () of () => 1 end", "1"}, row{"case true of false => 1 | true => 2 end", "2"},
		row{"case (1, 2) of (2, x) => x | (1, x) => x * 10 end", "20"}, row{"case (1, 2) of (x, 3) => 0 | (x, y) => x * 10 + y end", "12"}, row{"case (1, (2, 3), 4) of (a, (b, c), d) => a * 1000 + b * 100 + c * 10 + d end", "1234"}, row{"case (1, (2, 3)) of (_, (_, 4)) => 0 | (_, (x, 3)) => x end", "2"},
		row{"case [1, 2, 3] of [] => 0 | [a] => 1 | [a, b] => 2 | [a, b, c] => c * 100 + b * 10 + a end", "321"}, row{"case [] of [x] => x | [] => 7 end", "7"}, row{"case [1] of [] => 0 | [x, y] => 1 end", "Match"}, row{"case [1, 2] of [x, 3] => 1 | [x, 2] => 2 end", "2"},
		row{"case [1, 2, 3] of x :: y :: r => (case r of [z] => x * 100 + y * 10 + z end) end", "123"}, row{"case [] of x :: _ => x | _ => 4 end", "4"}, row{"case [1] of _ :: [] => 1 | _ => 2 end", "1"}, row{"case [1, 2] of _ :: [] => 1 | _ => 2 end", "2"}, row{"case [[1], [2, 3]] of [_, x :: [y]] => x * 10 + y end", "23"},
		row{"case A of B x => x | C (_, x) => x | A => 9 end", "9"}, row{"case B 4 of A => 0 | C (_, x) => x | B x => x end", "4"}, row{"case C (B 1, 2) of C (A, x) => 0 | C (B 2, x) => 1 | C (B y, x) => x * 10 + y end", "21"}, row{"case B 4 of B 5 => 1 | A => 2 end", "Match"}, row{"case C (A, 1) of C p => (case p of (_, n) => n end) end", "1"},
		row{"case [1, 2] of (l as x :: (r as _)) => (case (l, r) of ([a, b], [c]) => x * 1000 + a * 100 + b * 10 + c end) end", "1122"}, row{"case 5 of (x as 4) => 1 | (x as y) => x * 10 + y end", "55"}, row{"case (1, 2) of (p as (a, b)) => (case p of (c, d) => a + b + c + d end) end", "6"}, row{"case (5 : int) of ((x : int) : int) => x end", "5"}, row{"case [1] of ([x] : int list) => x end", "1"},
		row{"(fn (x, _) => x) (1, 2)", "1"}, row{"(fn [x] => x) [1, 2]", "Match"}, row{"(fn 1 => 2) 1", "2"}, row{"let fun f (x :: _) = x in f [] end", "Match"}, row{"let val (x, [y]) = (1, [2]) in x + y end", "3"}, row{"let val (x, [y]) = (1, []) in x + y end", "Bind"},
		// The first rule that matches, and names of rules that do not match are not there.
		row{"case 1 of x => 1 | 1 => 2 end", "1"}, row{"let val x = 7 in case (1, 2) of (x, 3) => 0 | (_, 2) => x end end", "7"},
	)
}

func TestP6_4Exceptions(t *testing.T) {
	const make = "fun make () = let exception E of int in (E, fn x => case x of E n => n | _ => ~1 end) end val (e, get) = make () val (d, take) = make () "
	says(t, make+"exception E of int exception F",
		row{"get (e 5)", "5"}, row{"take (d 6)", "6"}, row{"get (d 5)", "~1"}, row{"take (e 5)", "~1"}, row{"get (E 5)", "~1"}, row{"case e 5 of E n => n | F => 1 | _ => 2 end", "2"}, row{"case E 5 of E n => n end", "5"}, row{"case F of F => 3 end", "3"}, row{"case F of E _ => 1 end", "Match"},
		row{"try 1 / 0 with Div => 1 end", "1"}, row{"try raise Div with Div => 1 end", "1"}, row{"case Div of Match => 0 | Div => 1 end", "1"}, row{"try (fn 1 => 2) 3 with Bind => 0 | Match => 1 end", "1"}, row{"try let val 1 = 2 in 3 end with Match => 0 | Bind => 1 end", "1"}, row{"try raise Match with Match => 4 end", "4"},
		// One that is declared later is another one, of the same name or not.
		row{"let exception F in case F of F => 1 end end", "1"}, row{"let val f = F exception F in case f of F => 1 | _ => 2 end end", "2"}, row{"let exception Div in try 1 / 0 with Div => 1 | _ => 2 end end", "2"}, row{"let exception A exception B in case A of B => 1 | A => 2 end end", "2"}, row{"let exception Match in case Match of Match => 1 end end", "1"},
	)
	// Each time that it is come to: in the same function, in one that calls itself, in one that is given.
	says(t, "fun f n = let exception E in if n = 0 then raise E else (try f (n - 1) with E => n end) end fun g x = let val y = x exception E exception G val z = y in fn h => try (if x then raise E else h ()) with E => 1 | G => 2 end end",
		row{"f 3", "E"}, row{"f 0", "E"}, row{"g true (fn () => 0)", "1"}, row{"g false (fn () => g true (fn () => 0))", "1"}, row{"let fun h k = let exception E in if k = 2 then E else (case h (k + 1) of E => Div | x => x end) end in try raise h 0 with Div => 0 | _ => 1 end end", "1"},
	)
}
