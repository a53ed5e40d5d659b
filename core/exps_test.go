package core

import "testing"

func TestP7_2Constants(t *testing.T) {
	exps(t,
		row{"7", "(int@100 7)"}, row{"0", "(int@100)"}, row{"1000000000", "(int@100 1000000000)"}, row{`"a"`, "(str@100 a)"}, row{`""`, "(str@100)"}, row{"(7)", "(int@101 7)"},
		row{"()", "(tuple@100)"}, row{"(1, 2)", "(tuple@100 (int@101 1) (int@104 2))"}, row{"(1, 2, (3, 4))", "(tuple@100 (int@101 1) (int@104 2) (tuple@107 (int@108 3) (int@111 4)))"},
	)
}

func TestP7_2Names(t *testing.T) {
	exps(t, row{"a", "(var@100 5)"}, row{"f", "(var@100 1)"}, row{"(a)", "(var@101 5)"})
	for _, name := range []string{"not", "print", "str", "size", "sub", "part", "chr", "ref", "array", "length", "at", "put"} {
		exps(t, row{name, "(base@100 " + name + ")"})
	}
	becomes(t,
		// A name that comes later hides those from the beginning.
		row{"val _ = size val size = size val _ = size", "(let@0 [any@4] (base@8 size) (let@13 [var@17 1] (base@24 size) (let@29 [any@33] (var@37 1) (tuple@0))))"},
		row{"fun print x = print x", "(funs@0 #1 (fn@4 [var@10 2] (app@14 (var@14 1) (var@20 2))) (tuple@0))"},
		row{"val _ = let val str = 1 in str end val _ = str", "(let@0 [any@4] (let@12 [var@16 1] (int@22 1) (var@27 1)) (let@35 [any@39] (base@43 str) (tuple@0)))"},
	)
}

func TestP7_2Constructors(t *testing.T) {
	exps(t,
		row{"true", "(con@100 1 /2 true)"}, row{"false", "(con@100 /2 false)"}, row{"A", "(con@100 /3 A)"}, row{"E", "(exn@100 3)"},
		row{"Match", "(exn@100 -1)"}, row{"Bind", "(exn@100 -2)"}, row{"Overflow", "(exn@100 -3)"}, row{"Div", "(exn@100 -4)"}, row{"Bounds", "(exn@100 -5)"}, row{"Size", "(exn@100 -6)"},
		// With an argument, and not applied.
		row{"B", "(fn@100 [var@100 6] (con@100 1 /3 B (var@100 6)))"}, row{"C", "(fn@100 [var@100 6] (con@100 2 /3 C (var@100 6)))"}, row{"F", "(fn@100 [var@100 6] (exn@100 4 (var@100 6)))"}, row{"(B)", "(fn@101 [var@101 6] (con@101 1 /3 B (var@101 6)))"},
		row{"(B, B, F)", "(tuple@100 (fn@101 [var@101 6] (con@101 1 /3 B (var@101 6))) (fn@104 [var@104 7] (con@104 1 /3 B (var@104 7))) (fn@107 [var@107 8] (exn@107 4 (var@107 8))))"},
		// Applied: the argument's term in it.
		row{"B 1", "(con@100 1 /3 B (int@102 1))"}, row{"(B) 1", "(con@101 1 /3 B (int@104 1))"}, row{"((B)) (1)", "(con@102 1 /3 B (int@107 1))"}, row{"F 1", "(exn@100 4 (int@102 1))"}, row{"(F) (a)", "(exn@101 4 (var@105 5))"},
		row{"C (A, B 2)", "(con@100 2 /3 C (tuple@102 (con@103 /3 A) (con@106 1 /3 B (int@108 2))))"}, row{"B (f a)", "(con@100 1 /3 B (app@103 (var@103 1) (var@105 5)))"}, row{"C (f (fn x => x))", "(con@100 2 /3 C (app@103 (var@103 1) (fn@106 [var@109 6] (var@114 6))))"},
		// With a type it is no ECon; handed on it is not applied.
		row{"(B : int -> t) 1", "(app@100 (fn@101 [var@101 6] (con@101 1 /3 B (var@101 6))) (int@115 1))"}, row{"(let in B end) 1", "(app@101 (fn@108 [var@108 6] (con@108 1 /3 B (var@108 6))) (int@115 1))"}, row{"f B 1", "(app@100 (app@100 (var@100 1) (fn@102 [var@102 6] (con@102 1 /3 B (var@102 6)))) (int@104 1))"},
	)
}

func TestP7_2Kids(t *testing.T) {
	exps(t,
		row{"f 1", "(app@100 (var@100 1) (int@102 1))"}, row{"f 1 2", "(app@100 (app@100 (var@100 1) (int@102 1)) (int@104 2))"}, row{"(f 1) 2", "(app@101 (app@101 (var@101 1) (int@103 1)) (int@106 2))"}, row{"f (f 1)", "(app@100 (var@100 1) (app@103 (var@103 1) (int@105 1)))"},
		row{"if true then 1 else 2", "(if@100 (con@103 1 /2 true) (int@113 1) (int@120 2))"}, row{"raise E", "(raise@100 (exn@106 3))"}, row{"raise F 2", "(raise@100 (exn@106 4 (int@108 2)))"},
		row{"(1; 2)", "(seq@100 (int@101 1) (int@104 2))"}, row{"(1; 2; 3)", "(seq@100 (int@101 1) (int@104 2) (int@107 3))"},
		row{"true andalso false", "(if@100 (con@100 1 /2 true) (con@113 /2 false) (con@100 /2 false))"}, row{"true orelse false", "(if@100 (con@100 1 /2 true) (con@100 1 /2 true) (con@112 /2 false))"}, row{"(true) andalso a = 1", "(if@101 (con@101 1 /2 true) (op@115 = (var@115 5) (int@119 1)) (con@101 /2 false))"},
		row{"true andalso true orelse false", "(if@100 (if@100 (con@100 1 /2 true) (con@113 1 /2 true) (con@100 /2 false)) (con@100 1 /2 true) (con@125 /2 false))"},
		row{"(1 : int)", "(int@101 1)"}, row{"((1 : int) : int)", "(int@102 1)"}, row{"(f a : t)", "(app@101 (var@101 1) (var@103 5))"},
	)
	// Numbers are given from the left.
	exps(t,
		row{"(fn x => x, fn x => x)", "(tuple@100 (fn@101 [var@104 6] (var@109 6)) (fn@112 [var@115 7] (var@120 7)))"}, row{"(fn x => x) (fn x => x)", "(app@101 (fn@101 [var@104 6] (var@109 6)) (fn@113 [var@116 7] (var@121 7)))"}, row{"(fn x => x; fn x => x)", "(seq@100 (fn@101 [var@104 6] (var@109 6)) (fn@112 [var@115 7] (var@120 7)))"},
		row{"if f B then B else B", "(if@100 (app@103 (var@103 1) (fn@105 [var@105 6] (con@105 1 /3 B (var@105 6)))) (fn@112 [var@112 7] (con@112 1 /3 B (var@112 7))) (fn@119 [var@119 8] (con@119 1 /3 B (var@119 8))))"}, row{"f B orelse f B", "(if@100 (app@100 (var@100 1) (fn@102 [var@102 6] (con@102 1 /3 B (var@102 6)))) (con@100 1 /2 true) (app@111 (var@111 1) (fn@113 [var@113 7] (con@113 1 /3 B (var@113 7)))))"},
		row{"[B, B]", "(con@101 1 /2 :: (tuple@101 (fn@101 [var@101 6] (con@101 1 /3 B (var@101 6))) (con@104 1 /2 :: (tuple@104 (fn@104 [var@104 7] (con@104 1 /3 B (var@104 7))) (con@100 /2 [])))))"}, row{"B :: [B]", "(con@100 1 /2 :: (tuple@100 (fn@100 [var@100 6] (con@100 1 /3 B (var@100 6))) (con@106 1 /2 :: (tuple@106 (fn@106 [var@106 7] (con@106 1 /3 B (var@106 7))) (con@105 /2 [])))))"},
		row{"f B = f B", "(op@100 = (app@100 (var@100 1) (fn@102 [var@102 6] (con@102 1 /3 B (var@102 6)))) (app@106 (var@106 1) (fn@108 [var@108 7] (con@108 1 /3 B (var@108 7)))))"},
	)
}

func TestP7_2Lists(t *testing.T) {
	exps(t,
		row{"[]", "(con@100 /2 [])"}, row{"[7]", "(con@101 1 /2 :: (tuple@101 (int@101 7) (con@100 /2 [])))"}, row{"[7, 8]", "(con@101 1 /2 :: (tuple@101 (int@101 7) (con@104 1 /2 :: (tuple@104 (int@104 8) (con@100 /2 [])))))"},
		// The place is that of the element's term, which need not be the element's.
		row{"[(7 : int)]", "(con@102 1 /2 :: (tuple@102 (int@102 7) (con@100 /2 [])))"}, row{"[(7)]", "(con@102 1 /2 :: (tuple@102 (int@102 7) (con@100 /2 [])))"}, row{"[let in 7 end]", "(con@108 1 /2 :: (tuple@108 (int@108 7) (con@100 /2 [])))"}, row{"[let val x = 7 in x end]", "(con@105 1 /2 :: (tuple@105 (let@105 [var@109 6] (int@113 7) (var@118 6)) (con@100 /2 [])))"},
		row{"[[7]]", "(con@102 1 /2 :: (tuple@102 (con@102 1 /2 :: (tuple@102 (int@102 7) (con@101 /2 []))) (con@100 /2 [])))"}, row{"[[], []]", "(con@101 1 /2 :: (tuple@101 (con@101 /2 []) (con@105 1 /2 :: (tuple@105 (con@105 /2 []) (con@100 /2 [])))))"}, row{"[(1, 2)]", "(con@101 1 /2 :: (tuple@101 (tuple@101 (int@102 1) (int@105 2)) (con@100 /2 [])))"},
		row{"1 :: []", "(con@100 1 /2 :: (tuple@100 (int@100 1) (con@105 /2 [])))"}, row{"1 :: 2 :: []", "(con@100 1 /2 :: (tuple@100 (int@100 1) (con@105 1 /2 :: (tuple@105 (int@105 2) (con@110 /2 [])))))"}, row{"(1 : int) :: []", "(con@100 1 /2 :: (tuple@100 (int@101 1) (con@113 /2 [])))"},
	)
}

func TestP7_2Operators(t *testing.T) {
	for _, sign := range []string{"+", "-", "*", "/", "%", "<", ">", "="} {
		exps(t, row{"1 " + sign + " 2", "(op@100 " + sign + " (int@100 1) (int@104 2))"})
	}
	for _, sign := range []string{"<=", ">=", "<>"} {
		exps(t, row{"1 " + sign + " 2", "(op@100 " + sign + " (int@100 1) (int@105 2))"})
	}
	exps(t,
		row{`"a" ^ "b"`, "(op@100 ^ (str@100 a) (str@106 b))"}, row{"~ 1", "(op@100 ~ (int@102 1))"}, row{"! (ref 1)", "(op@100 ! (app@103 (base@103 ref) (int@107 1)))"}, row{"ref 1 := 2", "(op@100 := (app@100 (base@100 ref) (int@104 1)) (int@109 2))"}, row{"(1 + 2) * 3", "(op@101 * (op@101 + (int@101 1) (int@105 2)) (int@110 3))"},
	)
}

func TestP7_2Functions(t *testing.T) {
	exps(t,
		row{"fn x => x", "(fn@100 [var@103 6] (var@108 6))"}, row{"fn x => fn y => x", "(fn@100 [var@103 6] (fn@108 [var@111 7] (var@116 6)))"}, row{"fn x => fn x => x", "(fn@100 [var@103 6] (fn@108 [var@111 7] (var@116 7)))"}, row{"fn _ => a", "(fn@100 [any@103] (var@108 5))"}, row{"fn a => a", "(fn@100 [var@103 6] (var@108 6))"},
		row{"(fn a => a) a", "(app@101 (fn@101 [var@104 6] (var@109 6)) (var@112 5))"}, row{"fn (x, y) => y", "(fn@100 [tuple@103 [var@104 6] [var@107 7]] (var@113 7))"},
	)
}

func TestP7_2Rules(t *testing.T) {
	exps(t,
		row{"case 1 of 2 => 3 | x => x end", "(case@100 [int@110 2] [var@119 6] (int@105 1) (int@115 3) (var@124 6))"}, row{"case fn x => x of y => (fn z => y) 1 | w => w end", "(case@100 [var@118 7] [var@139 9] (fn@105 [var@108 6] (var@113 6)) (app@124 (fn@124 [var@127 8] (var@132 7)) (int@135 1)) (var@144 9))"},
		row{"case a of a => a | _ => a end", "(case@100 [var@110 6] [any@119] (var@105 5) (var@115 6) (var@124 5))"}, row{"case A of B x => x | C (A, B y) => y | _ => a end", "(case@100 [con@110 1 /3 B [var@112 6]] [con@121 2 /3 C [tuple@123 [con@124 /3 A] [con@127 1 /3 B [var@129 7]]]] [any@139] (con@105 /3 A) (var@117 6) (var@135 7) (var@144 5))"},
		row{"try 1 with E => 2 | F n => n end", "(try@100 [exn@111 3] [exn@120 4 [var@122 6]] (int@104 1) (int@116 2) (var@127 6))"}, row{"try raise Div with Div => 1 | x => raise x end", "(try@100 [exn@119 -4] [var@130 6] (raise@104 (exn@110 -4)) (int@126 1) (raise@135 (var@141 6)))"},
		row{"case 1 of x => (case 2 of x => x end) + x end", "(case@100 [var@110 6] (int@105 1) (op@116 + (case@116 [var@126 7] (int@121 2) (var@131 7)) (var@140 6)))"},
	)
}

func TestP7_2Let(t *testing.T) {
	exps(t,
		row{"let in 1 end", "(int@107 1)"}, row{"let in let in 1 end end", "(int@114 1)"}, row{"let val x = 1 in x end", "(let@104 [var@108 6] (int@112 1) (var@117 6))"}, row{"let val x = a val a = x in a end", "(let@104 [var@108 6] (var@112 5) (let@114 [var@118 7] (var@122 6) (var@127 7)))"},
		row{"let exception E in E end", "(newexn@104 6 E (exn@119 6))"}, row{"let exception F of t in F A end", "(newexn@104 6 /1 F (exn@124 6 (con@126 /3 A)))"}, row{"let fun g x = g x in g end", "(funs@104 #6 (fn@108 [var@110 7] (app@114 (var@114 6) (var@116 7))) (var@121 6))"},
		// What a let declares is gone behind it.
		row{"(let val a = 2 in a end, a)", "(tuple@100 (let@105 [var@109 6] (int@113 2) (var@118 6)) (var@125 5))"}, row{"(let exception E in E end, E)", "(tuple@100 (newexn@105 6 E (exn@120 6)) (exn@127 3))"},
	)
	becomes(t, row{"structure S = struct val x = 1 exception E end val _ = let open S val y = x in (y, E) end", "(let@21 [var@25 1] (int@29 1) (newexn@31 2 E (let@47 [any@51] (let@66 [var@70 3] (var@74 1) (tuple@79 (var@80 3) (exn@83 2))) (tuple@0))))"})
}
