package core

import "testing"

func TestP7_3Patterns(t *testing.T) {
	pats(t,
		row{"_", "[any@100]"}, row{"x", "[var@100 7]"}, row{"7", "[int@100 7]"}, row{"0", "[int@100]"}, row{"~ 7", "[int@100 -7]"}, row{`"a"`, "[str@100 a]"}, row{`""`, "[str@100]"},
		row{"()", "[tuple@100]"}, row{"(x, _, y)", "[tuple@100 [var@101 7] [any@104] [var@107 8]]"}, row{"((x, y), z)", "[tuple@100 [tuple@101 [var@102 7] [var@105 8]] [var@109 9]]"}, row{"(x)", "[var@101 7]"},
		row{"(x as y)", "[as@100 7 [var@106 8]]"}, row{"(x as (y as (z, w)))", "[as@100 7 [as@106 8 [tuple@112 [var@113 9] [var@116 10]]]]"}, row{"((x as 1), y)", "[tuple@100 [as@101 7 [int@107 1]] [var@111 8]]"},
		row{"(x : int)", "[var@101 7]"}, row{"((x : int), (y : t))", "[tuple@100 [var@102 7] [var@113 8]]"}, row{"(((1 : int) : int))", "[int@103 1]"}, row{"(x as (y : int))", "[as@100 7 [var@107 8]]"},
	)
}

func TestP7_3Constructors(t *testing.T) {
	pats(t,
		row{"true", "[con@100 1 /2 true]"}, row{"false", "[con@100 /2 false]"}, row{"A", "[con@100 /3 A]"}, row{"B 1", "[con@100 1 /3 B [int@102 1]]"}, row{"B x", "[con@100 1 /3 B [var@102 7]]"}, row{"(B x)", "[con@101 1 /3 B [var@103 7]]"}, row{"C (x, B y)", "[con@100 2 /3 C [tuple@102 [var@103 7] [con@106 1 /3 B [var@108 8]]]]"},
		row{"E", "[exn@100 3]"}, row{"F x", "[exn@100 4 [var@102 7]]"}, row{"F (1 : int)", "[exn@100 4 [int@103 1]]"}, row{"Match", "[exn@100 -1]"}, row{"Bind", "[exn@100 -2]"}, row{"Overflow", "[exn@100 -3]"}, row{"Div", "[exn@100 -4]"}, row{"Bounds", "[exn@100 -5]"}, row{"Size", "[exn@100 -6]"},
	)
	becomes(t,
		row{"structure S = struct data t = A of int | B exception E of int end fun f (S.A x) = 1 fun g (S.E x) = 2", "(newexn@43 1 /1 E (funs@66 #2 (fn@70 [con@73 /2 A [var@77 3]] (int@82 1)) (funs@84 #4 (fn@88 [exn@91 1 [var@95 5]] (int@100 2)) (tuple@0))))"},
		// A name is what it stands for there.
		row{"exception E fun f E = 1 exception E fun g E = 2 data t = E fun h E = 3", "(newexn@0 1 E (funs@12 #2 (fn@16 [exn@18 1] (int@22 1)) (newexn@24 3 E (funs@36 #4 (fn@40 [exn@42 3] (int@46 2)) (funs@59 #5 (fn@63 [con@65 /1 E] (int@69 3)) (tuple@0))))))"},
	)
}

func TestP7_3Lists(t *testing.T) {
	pats(t,
		row{"x :: y", "[con@100 1 /2 :: [tuple@100 [var@100 7] [var@105 8]]]"}, row{"1 :: 2 :: x", "[con@100 1 /2 :: [tuple@100 [int@100 1] [con@105 1 /2 :: [tuple@105 [int@105 2] [var@110 7]]]]]"}, row{"(x :: y) :: z", "[con@101 1 /2 :: [tuple@101 [con@101 1 /2 :: [tuple@101 [var@101 7] [var@106 8]]] [var@112 9]]]"}, row{"(1 : int) :: _", "[con@100 1 /2 :: [tuple@100 [int@101 1] [any@113]]]"},
		row{"[]", "[con@100 /2 []]"}, row{"[x]", "[con@100 1 /2 :: [tuple@100 [var@101 7] [con@100 /2 []]]]"}, row{"[x, 2, y]", "[con@100 1 /2 :: [tuple@100 [var@101 7] [con@100 1 /2 :: [tuple@100 [int@104 2] [con@100 1 /2 :: [tuple@100 [var@107 8] [con@100 /2 []]]]]]]]"}, row{"[[], [x]]", "[con@100 1 /2 :: [tuple@100 [con@101 /2 []] [con@100 1 /2 :: [tuple@100 [con@105 1 /2 :: [tuple@105 [var@106 7] [con@105 /2 []]]] [con@100 /2 []]]]]]"},
	)
}
