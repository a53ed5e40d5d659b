package infer

import (
	"testing"

	"mlcore/api"
)

func TestP4_2Beginning(t *testing.T) {
	shows(t,
		row{"not", "bool -> bool"}, row{"print", "string -> unit"}, row{"str", "int -> string"},
		row{"size", "string -> int"}, row{"sub", "string * int -> int"},
		row{"part", "string * int * int -> string"}, row{"chr", "int -> string"},
		row{"ref", "'a -> 'a ref"}, row{"array", "int * 'a -> 'a array"}, row{"length", "'a array -> int"},
		row{"at", "'a array * int -> 'a"}, row{"put", "'a array * int * 'a -> unit"},
		row{"true", "bool"}, row{"false", "bool"},
		row{"[Match, Bind, Overflow, Div, Bounds, Size]", "exn list"},
		row{"[(1 : int)]", "int list"}, row{"(\"\" : string)", "string"}, row{"(true : bool)", "bool"}, row{"(() : unit)", "unit"},
		row{"(Div : exn)", "exn"}, row{"([] : int list)", "int list"}, row{"(ref 1 : int ref)", "int ref"},
		row{"(array (1, 2) : int array)", "int array"},
	)
	shows(t,
		row{"() = ()", "bool"}, row{"1 = 1", "bool"}, row{"\"\" = \"\"", "bool"}, row{"true = true", "bool"}, row{"[] = [()]", "bool"},
		row{"ref not = ref not", "bool"}, row{"array (1, Div) = array (1, Div)", "bool"},
	)
	failsExp(t, api.ErrEqual, "?Div = Div", "?[Div] = []", "?not = not")
}

func TestP4_1Expressions(t *testing.T) {
	shows(t,
		row{"0", "int"}, row{"\"a\"", "string"}, row{"()", "unit"},
		row{"(1, \"a\", true)", "int * string * bool"}, row{"((1, 2), (3, 4, ()))", "(int * int) * (int * int * unit)"},
		row{"[]", "'a list"}, row{"[[]]", "'a list list"}, row{"[1, 2]", "int list"}, row{"[[], [1]]", "int list list"},
		row{"fn x => x", "'a -> 'a"}, row{"fn _ => ()", "'a -> unit"}, row{"fn x => fn y => x", "'a -> 'b -> 'a"},
		row{"fn f => fn x => f (f x)", "('a -> 'a) -> 'a -> 'a"}, row{"(fn x => x) 1", "int"},
		row{"fn f => f 1 true", "(int -> bool -> 'a) -> 'a"},
		row{"fn x => if x then 1 else 2", "bool -> int"}, row{"fn x => fn y => if true then x else y", "'a -> 'a -> 'a"},
		row{"fn x => case x of 0 => true | _ => false end", "int -> bool"},
		row{"case (1, \"a\") of (x, y) => (y, x) end", "string * int"},
		row{"fn x => case x of y => y end", "'a -> 'a"},
		row{"fn f => try f () with Div => 0 end", "(unit -> int) -> int"},
		row{"fn x => try x with e => raise e end", "'a -> 'a"},
		row{"raise Div", "'a"}, row{"fn e => raise e", "exn -> 'a"},
		row{"let in 1 end", "int"}, row{"let val x = 1 val y = (x, x) in y end", "int * int"},
		row{"let fun f x = x in (f 1, f true) end", "int * bool"},
		row{"let exception E of int in fn () => raise E 1 end", "unit -> 'a"},
		row{"(1; true; \"a\")", "string"}, row{"fn x => (x; x)", "'a -> 'a"},
		row{"fn x => fn y => x andalso y", "bool -> bool -> bool"}, row{"fn x => fn y => x orelse y", "bool -> bool -> bool"},
		row{"(1 : int)", "int"}, row{"fn x => (x : bool list)", "bool list -> bool list"},
		row{"([] : int list)", "int list"}, row{"fn f => (f : int -> int) 1", "(int -> int) -> int"},
		row{"ref []", "'a list ref"}, row{"fn x => !x + 1", "int ref -> int"},
	)
}

func TestP4_1Operators(t *testing.T) {
	for _, sign := range []string{"+", "-", "*", "/", "%"} {
		shows(t, row{"fn x => fn y => x " + sign + " y", "int -> int -> int"})
	}
	for _, sign := range []string{"<", "<=", ">", ">="} {
		shows(t, row{"fn x => fn y => x " + sign + " y", "int -> int -> bool"})
	}
	for _, sign := range []string{"=", "<>"} {
		shows(t, row{"fn x => fn y => x " + sign + " y", "''a -> ''a -> bool"})
		failsExp(t, api.ErrType, "1 "+sign+" ?true")
		failsExp(t, api.ErrEqual, "(?fn x => x) "+sign+" 1", "fn x => (x; x "+sign+" (?fn y => y))")
	}
	shows(t,
		row{"fn x => ~x", "int -> int"}, row{"fn x => fn y => x ^ y", "string -> string -> string"},
		row{"fn x => fn y => x :: y", "'a -> 'a list -> 'a list"},
		row{"fn x => fn y => x := y", "'a ref -> 'a -> unit"}, row{"fn x => !x", "'a ref -> 'a"},
	)
	failsExp(t, api.ErrType,
		"?true + 1", "1 - ?true", "\"a\" ^ ?1", "?1 ^ \"a\"", "~?true", "1 < ?\"a\"", "?\"a\" >= 1", "1 :: ?2", "1 :: ?[true]",
		"?1 := 1", "ref 1 := ?true", "!?1", "!(?ref)", "1 :: 2 :: ?3", "?1 andalso true", "true orelse ?1", "true andalso true andalso ?()",
	)
}

// Which of several faults is the first.
func TestP4_1OrderInExpressions(t *testing.T) {
	failsExp(t, api.ErrName,
		"?x", "?X", "?A.x", "?A.X", "(?x, y)", "(1 + 2, ?x, 1 + true)", "[?x, y]", "fn y => ?x",
		"?x y", "1 ?x", "if ?x then y else z", "if true then ?x else y", "if true then 1 else ?x",
		"case ?x of A => 1 end", "case 1 of y => ?x end", "try ?x with A => 1 end", "try 1 with Div => ?x end",
		"raise ?x", "let val y = ?x in z end", "let in ?x end", "(?x; y)", "(1; ?x)", "?x andalso 1", "true orelse ?x",
		"?x + true", "1 + ?x", "~?x", "!?x", "(?x : y)", "(1 : ?y)", "(1 : ?int list y)", "(1) ?x",
	)
	failsExp(t, api.ErrType,
		"?true + x", "?true + true", "if ?1 then x else y", "if true then 1 else ?true", "[1, ?true, x]", "[1, ?true, \"a\"]",
		"case 1 of ?true => x end", "case 1 of 1 => 1 | ?true => x end", "case 1 of 1 => 1 | 2 => ?true | true => x end",
		"try 1 with ?1 => x end", "try 1 with Div => ?true | 1 => x end", "raise ?1", "?(1 : bool)", "[(1), ?(true : bool)]",
		"1 ?1", "1 ?(1, 2)", "not ?1", "not true ?true", "(?1 andalso x)", "?1 orelse x",
		"(fn (x, y) => x) ?1", "(fn x => x + 1) ?(true, 1)",
	)
	failsExp(t, api.ErrCircle, "fn x => x ?x", "fn x => [x, ?[x]]", "fn x => (x = ?[x])", "fn x => if true then x else ?(x, x)", "fn x => x := ?x")
}

// Names go where what they belong to ends, and what they hid is there again.
func TestP4_1Scope(t *testing.T) {
	failsExp(t, api.ErrName,
		"(fn x => x) ?x", "(let val x = 1 in x end, ?x)", "(let fun f x = x in f end) ?f", "let fun f x = x in ?x end",
		"(case 1 of x => x end, ?x)", "case 1 of 0 => ?x | x => x end", "case 1 of x => x | _ => ?x end",
		"(try 1 with x => 2 end, ?x)", "let exception E in (let exception F in E end, ?F) end", "let val x = fn y => ?x in 1 end",
		"let fun f x = ?g x fun g x = x in f end", "let val (x, y) = (1, ?x) in x end",
	)
	shows(t,
		row{"fn x => (let val x = 1 in x end, x)", "'a -> int * 'a"},
		row{"fn x => ((fn x => x + 1) 1, x)", "'a -> int * 'a"},
		row{"fn x => (case 1 of x => x end, x)", "'a -> int * 'a"},
		row{"fn x => let val x = (x, 1) val x = (x, true) in x end", "'a -> ('a * int) * bool"},
		row{"fn x => (let fun x y = y in x 1 end, let fun f x = x + 1 in f 1 end, x)", "'a -> int * int * 'a"},
		row{"fn not => (not, (fn true => 1) true)", "'a -> 'a * int"},
		row{"let exception Div of int in (Div 1, try 1 with Div n => n end) end", "exn * int"},
		row{"(let exception Div of int in Div 1 end, Div)", "exn * exn"},
		row{"let fun f f = f in f 1 end", "int"},
		row{"let fun f x = x and g f = f + 1 in (f, g) end", "('a -> 'a) * (int -> int)"},
		row{"let val x = 1 fun x y = y in x x end", "'a -> 'a"},
	)
}

func TestP4_2Wrong(t *testing.T) {
	failsExp(t, api.ErrSyntax, "?", "1 +?", "1 ?val x = 1", "?val x = 1")
	failsExp(t, api.ErrToken, "1 + ?#")
	failsExp(t, api.ErrByte, "1 ?\x01")
	failsExp(t, api.ErrName, "?y")
}
