package infer

import (
	"testing"

	"mlcore/api"
)

func TestP4_1Patterns(t *testing.T) {
	shows(t,
		row{"fn _ => 1", "'a -> int"}, row{"fn 1 => 1", "int -> int"}, row{"fn ~1 => 1", "int -> int"}, row{"fn \"a\" => 1", "string -> int"},
		row{"fn x => x", "'a -> 'a"}, row{"fn () => 1", "unit -> int"}, row{"fn (x, y) => y", "'a * 'b -> 'b"},
		row{"fn (x, 1, (y, _)) => (x, y)", "'a * int * ('b * 'c) -> 'a * 'b"},
		row{"fn [] => 1", "'a list -> int"}, row{"fn [x] => x", "'a list -> 'a"}, row{"fn [x, 1] => x", "int list -> int"},
		row{"fn [[], x] => x", "'a list list -> 'a list"},
		row{"fn (x :: y) => (x, y)", "'a list -> 'a * 'a list"}, row{"fn (1 :: y) => y", "int list -> int list"},
		row{"fn (x :: y :: []) => (x, y)", "'a list -> 'a * 'a"}, row{"fn ((x :: _) :: _) => x", "'a list list -> 'a"},
		row{"fn (x as y) => (x, y)", "'a -> 'a * 'a"}, row{"fn (x as (y, 1)) => (x, y)", "'a * int -> ('a * int) * 'a"},
		row{"fn (x as [(y as z)]) => (x, y, z)", "'a list -> 'a list * 'a * 'a"},
		row{"fn (x : int) => x", "int -> int"}, row{"fn ((x, y) : int * bool) => y", "int * bool -> bool"},
		row{"fn ([] : int list) => 1", "int list -> int"},
		row{"fn true => 1", "bool -> int"}, row{"fn Div => 1", "exn -> int"}, row{"fn [true, x] => x", "bool list -> bool"},
	)
	tells(t,
		row{"data 'a t = A | B of 'a fun f A = [] and g (B x) = x", "f : 'a t -> 'b list; g : 'a t -> 'a"},
		row{"data 'a t = B of 'a * 'a fun f (B (x, 1)) = x fun g (B x) = x", "f : int t -> int; g : 'a t -> 'a * 'a"},
		row{"data t = A of int -> int fun f (A g) = g 1", "f : t -> int"},
		row{"exception E of int list fun f (E (x :: _)) = x", "f : exn -> int"},
		row{"val (x as (y, z)) = (1, true)", "x : int * bool; y : int; z : bool"},
		row{"val [a, (b : int)] = [1, 2]", "a : int; b : int"},
		row{"val (b, (a as [c])) = (1, [2])", "b : int; a : int list; c : int"},
		row{"val _ = 1 val 1 = 2 val () = ()", ""},
	)
}

func TestP4_1WrongPatterns(t *testing.T) {
	fails(t, api.ErrName,
		"val ?A = 1", "val ?A x = 1", "val (?A, x, x) = 1", "val ?A.B = 1", "val (?A.B x) = 1", "data t = A of int fun f (A (?B)) = 1",
		"val ?A (B) = 1", "fun f (x : ?t) = x", "fun f ((x, ?B) : t) = x", "val f = fn (?A, (1 : bool)) => 1",
	)
	fails(t, api.ErrArity,
		"data t = A val ?A x = 1", "data t = A of int val ?A = 1", "exception E val (?E 1) = 1", "exception E of int fun f ?E = 1",
		"fun f (?Div 1) = 1", "data t = A of int val (?A, x, x) = 1", "data t = A val ?A (B) = 1", "data t = A val ?A 1 = A",
	)
	fails(t, api.ErrTwice,
		"val (x, ?x) = (1, 2)", "val [x, y, ?y, x] = []", "val (x :: ?x) = []", "fun f x ?x = x", "fun f (x, y) [?x] = x", "val (x as ?x) = 1",
		"val ((x as y), ?(x as z)) = 1", "val (x, ?(x as x)) = 1", "fun f x y (z, ?y) = 1", "val f = fn (x, ?x) => 1",
		"val f = case 1 of (x, ?x) => 1 end", "val f = try 1 with (x, ?x) => 1 end", "val (x, ?x, A) = 1", "data t = A of int * int val A (x, ?x) = 1",
		"fun f f ?f = 1", "val (x, (?x : int)) = 1",
	)
	fails(t, api.ErrType,
		"val f = fn [1, ?true] => 1", "val f = fn (1 :: ?2) => 1", "val f = fn (1 :: ?[true]) => 1", "val f = fn ?(1 : bool) => 1",
		"data t = A of int fun f (A ?true) = 1", "data 'a t = A of 'a * 'a fun f (A ?(1, true)) = 1",
		"val ?true = 1", "val ?(1, 2) = 1", "val ?(x, y) = (1, 2, 3)", "val ?[x] = 1", "val ?x :: y = 1", "val ?() = 1",
		"val f = fn (x :: y :: ?1) => 1", "val x = case 1 of ?\"a\" => 1 end",
	)
	fails(t, api.ErrCircle, "fun f (x :: y) = x = ?y", "fun f (x as (y, z)) = [x, ?y]", "fun f x = case x of (y, _) => [x, ?y] end")
	// The expression of a val comes ahead of its pattern.
	fails(t, api.ErrName, "val (x, x) = ?y", "val A = ?y", "val 1 = (true; ?y)")
	// A name twice is met where it stands.
	fails(t, api.ErrName, "val (x, ?A, x) = 1")
}
