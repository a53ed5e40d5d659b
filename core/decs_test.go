package core

import "testing"

func TestP7_4Val(t *testing.T) {
	becomes(t,
		row{"", "(tuple@0)"}, row{"  val x = 1", "(let@2 [var@6 1] (int@10 1) (tuple@0))"}, row{"val _ = 1 val x = 2 val y = x", "(let@0 [any@4] (int@8 1) (let@10 [var@14 1] (int@18 2) (let@20 [var@24 2] (var@28 1) (tuple@0))))"},
		// The expression is ahead of the pattern: in its numbers, and its names.
		row{"val x = fn y => y", "(let@0 [var@4 2] (fn@8 [var@11 1] (var@16 1)) (tuple@0))"}, row{"val x = 1 val x = x val _ = x", "(let@0 [var@4 1] (int@8 1) (let@10 [var@14 2] (var@18 1) (let@20 [any@24] (var@28 2) (tuple@0))))"}, row{"val (x, y) = (fn z => z, 1)", "(let@0 [tuple@4 [var@5 2] [var@8 3]] (tuple@13 (fn@14 [var@17 1] (var@22 1)) (int@25 1)) (tuple@0))"},
	)
}

func TestP7_4Fun(t *testing.T) {
	becomes(t,
		row{"fun f x = (x, true) val y = f 1", "(funs@0 #1 (fn@4 [var@6 2] (tuple@10 (var@11 2) (con@14 1 /2 true))) (let@20 [var@24 3] (app@28 (var@28 1) (int@30 1)) (tuple@0)))"}, row{"fun f x y z = y", "(funs@0 #1 (fn@4 [var@6 2] (fn@4 [var@8 3] (fn@4 [var@10 4] (var@14 3)))) (tuple@0))"},
		row{"fun f (x, _) 1 [y] = y", "(funs@0 #1 (fn@4 [tuple@6 [var@7 2] [any@10]] (fn@4 [int@13 1] (fn@4 [con@15 1 /2 :: [tuple@15 [var@16 3] [con@15 /2 []]]] (var@21 3)))) (tuple@0))"}, row{"fun f x : int = x", "(funs@0 #1 (fn@4 [var@6 2] (var@16 2)) (tuple@0))"},
		// All names are ahead of all functions, and known in them.
		row{"fun f x = g x and g y = f y", "(funs@0 #1 #2 (fn@4 [var@6 3] (app@10 (var@10 2) (var@12 3))) (fn@18 [var@20 4] (app@24 (var@24 1) (var@26 4))) (tuple@0))"}, row{"fun f x y = y and g z = fn w => w and h _ = 1 val k = h", "(funs@0 #1 #2 #3 (fn@4 [var@6 4] (fn@4 [var@8 5] (var@12 5))) (fn@18 [var@20 6] (fn@24 [var@27 7] (var@32 7))) (fn@38 [any@40] (int@44 1)) (let@46 [var@50 8] (var@54 3) (tuple@0)))"},
		// A pattern's name hides the function's; behind the fun it is gone.
		row{"fun f f = f val g = f", "(funs@0 #1 (fn@4 [var@6 2] (var@10 2)) (let@12 [var@16 3] (var@20 1) (tuple@0)))"}, row{"val x = 1 fun f x = x val y = x", "(let@0 [var@4 1] (int@8 1) (funs@10 #2 (fn@14 [var@16 3] (var@20 3)) (let@22 [var@26 4] (var@30 1) (tuple@0))))"}, row{"fun f x = 1 fun f x = f x", "(funs@0 #1 (fn@4 [var@6 2] (int@10 1)) (funs@12 #3 (fn@16 [var@18 4] (app@22 (var@22 3) (var@24 4))) (tuple@0)))"},
	)
}

func TestP7_4Exception(t *testing.T) {
	becomes(t,
		row{"exception E", "(newexn@0 1 E (tuple@0))"}, row{"exception E of int", "(newexn@0 1 /1 E (tuple@0))"}, row{"exception E of int * int val x = E (1, 2)", "(newexn@0 1 /1 E (let@25 [var@29 2] (exn@33 1 (tuple@35 (int@36 1) (int@39 2))) (tuple@0)))"},
		row{"val x = 1 exception E exception E of int val _ = E x", "(let@0 [var@4 1] (int@8 1) (newexn@10 2 E (newexn@22 3 /1 E (let@41 [any@45] (exn@49 3 (var@51 1)) (tuple@0)))))"}, row{"val x = Div exception Div val y = Div", "(let@0 [var@4 1] (exn@8 -4) (newexn@12 2 Div (let@26 [var@30 3] (exn@34 2) (tuple@0))))"},
	)
}

func TestP7_4Nothing(t *testing.T) {
	becomes(t,
		row{"type t = int data u = A | B of t signature S = sig val x : int exception E end structure A = struct end open A", "(tuple@0)"},
		// Constructors are numbered in each DBind; its variables are none of them.
		row{"data t = A | B of u | C and u = D of t | E val x = (A, B E, C) val y = D A", "(let@43 [var@47 1] (tuple@51 (con@52 /3 A) (con@55 1 /3 B (con@57 1 /2 E)) (con@60 2 /3 C)) (let@63 [var@67 2] (con@71 /2 D (con@73 /3 A)) (tuple@0)))"},
		row{"data ('a, 'b) t = A of 'a | B of 'b data 'a u = C val x = B C val C = C", "(let@50 [var@54 1] (con@58 1 /2 B (con@60 /1 C)) (let@62 [con@66 /1 C] (con@70 /1 C) (tuple@0)))"},
		row{"data t = A | B data u = B | C | A val x = (A, B)", "(let@34 [var@38 1] (tuple@42 (con@43 2 /3 A) (con@46 /3 B)) (tuple@0))"},
	)
}

func TestP7_4Structures(t *testing.T) {
	becomes(t,
		row{"structure A = struct val x = 1 end open A val y = x", "(let@21 [var@25 1] (int@29 1) (let@42 [var@46 2] (var@50 1) (tuple@0)))"}, row{"val a = 1 structure A = struct val b = a exception E fun f x = b end val c = A.f a val d = A.E", "(let@0 [var@4 1] (int@8 1) (let@31 [var@35 2] (var@39 1) (newexn@41 3 E (funs@53 #4 (fn@57 [var@59 5] (var@63 2)) (let@69 [var@73 6] (app@77 (var@77 4) (var@81 1)) (let@83 [var@87 7] (exn@91 3) (tuple@0)))))))"},
		row{"structure A = struct structure B = struct val x = 1 end val y = B.x end val z = (A.B.x, A.y)", "(let@42 [var@46 1] (int@50 1) (let@56 [var@60 2] (var@64 1) (let@72 [var@76 3] (tuple@80 (var@81 1) (var@88 2)) (tuple@0))))"},
		// A path is no declaration: its names are those that were there.
		row{"structure A = struct val x = 1 exception E end structure B = A structure A = struct val x = 2 end val y = (B.x, A.x, B.E)", "(let@21 [var@25 1] (int@29 1) (newexn@31 2 E (let@84 [var@88 3] (int@92 2) (let@98 [var@102 4] (tuple@106 (var@107 1) (var@112 3) (exn@117 2)) (tuple@0)))))"},
		// A constructor is called by its name without a path.
		row{"structure A = struct structure B = struct data t = C | D of int end end val x = A.B.C val y = A.B.D 1 val z = A.B.D", "(let@72 [var@76 1] (con@80 /2 C) (let@86 [var@90 2] (con@94 1 /2 D (int@100 1)) (let@102 [var@106 4] (fn@110 [var@110 3] (con@110 1 /2 D (var@110 3))) (tuple@0))))"},
		row{"val x = 1 structure A = struct val x = 2 end val y = x open A val z = x", "(let@0 [var@4 1] (int@8 1) (let@31 [var@35 2] (int@39 2) (let@45 [var@49 3] (var@53 1) (let@62 [var@66 4] (var@70 2) (tuple@0)))))"}, row{"structure A = struct val print = 1 end val x = print open A val y = print", "(let@21 [var@25 1] (int@33 1) (let@39 [var@43 2] (base@47 print) (let@60 [var@64 3] (var@68 1) (tuple@0))))"},
	)
}

func TestP7_4Signatures(t *testing.T) {
	for _, mark := range []string{" : ", ":> ", " :>"} {
		becomes(t,
			// What is hidden is there in the term, but has no name outside.
			row{"val y = 1 structure A" + mark + "sig val x : int end = struct val y = 2 val x = y end open A val z = (x, y)", "(let@0 [var@4 1] (int@8 1) (let@53 [var@57 2] (int@61 2) (let@63 [var@67 3] (var@71 2) (let@84 [var@88 4] (tuple@92 (var@93 3) (var@96 1)) (tuple@0)))))"},
			// The constructors of a data are those by themselves, even where they are hidden.
			row{"structure A" + mark + "sig data t = B | C of int end = struct data t = B | C of int exception B data u = C end val x = (A.B, A.C 1)", "(newexn@75 1 B (let@102 [var@106 2] (tuple@110 (con@111 /2 B) (con@116 1 /2 C (int@120 1))) (tuple@0)))"},
			row{"structure A" + mark + "sig exception E val e : exn end = struct exception E val e = E exception E end val x = (A.E, A.e)", "(newexn@55 1 E (let@67 [var@71 2] (exn@75 1) (newexn@77 3 E (let@93 [var@97 4] (tuple@101 (exn@102 3) (var@107 2)) (tuple@0)))))"},
		)
	}
	becomes(t,
		row{"signature S = sig structure B : sig val x : int end end structure A : S = struct structure B = struct val y = 1 val x = 2 end val z = 3 end val y = 4 open A.B val w = (x, y)", "(let@102 [var@106 1] (int@110 1) (let@112 [var@116 2] (int@120 2) (let@126 [var@130 3] (int@134 3) (let@140 [var@144 4] (int@148 4) (let@159 [var@163 5] (tuple@167 (var@168 2) (var@171 4)) (tuple@0))))))"},
		row{"structure A = struct val x = 1 val y = 2 end val x = 3 structure B : sig val y : int end = A open B val z = (x, y)", "(let@21 [var@25 1] (int@29 1) (let@31 [var@35 2] (int@39 2) (let@45 [var@49 3] (int@53 3) (let@100 [var@104 4] (tuple@108 (var@109 3) (var@112 2)) (tuple@0)))))"},
	)
}
