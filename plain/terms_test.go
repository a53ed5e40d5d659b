package plain

import "testing"

// What is no match stays as it is; tuples and constructors are blocks, or numbers.
func TestP9_2Terms(t *testing.T) {
	exps(t,
		row{"7", "7"}, row{"~ 7", "(~ 7)"}, row{`"a"`, `"a"`}, row{"print", "print"}, row{"1 + 2", "(+ 1 2)"}, row{"(1; 2; 3)", "(seq 1 2 3)"}, row{"str 1", "(app str 1)"}, row{"if 1 = 2 then 3 else 4", "(if (= 1 2) 3 4)"}, row{"raise Div", "(raise (block 0 Div))"},
		row{"()", "0"}, row{"false", "0"}, row{"true", "1"}, row{"[]", "0"}, row{"A", "0"}, row{"B 5", "(block 1 5)"}, row{"C (A, B 1)", "(block 2 (block 0 0 (block 1 1)))"}, row{"B", "(fn v1 (block 1 v1))"}, row{"U 5", "(block 0 5)"}, row{"(1, 2, (3, ()))", "(block 0 1 2 (block 0 3 0))"}, row{"[1, 2]", "(block 1 (block 0 1 (block 1 (block 0 2 0))))"}, row{"1 :: []", "(block 1 (block 0 1 0))"},
		row{"true andalso false", "(if 1 0 0)"}, row{"true orelse false", "(if 1 1 0)"}, row{"Match", "(block 0 Match)"}, row{"Size", "(block 0 Size)"}, row{"let exception E in E end", "(exception E/0 v1 (block 0 v1))"}, row{"let exception E of int in E 3 end", "(exception E/1 v1 (block 0 v1 3))"}, row{"let exception E of int in E end", "(exception E/1 v1 (fn v2 (block 0 v1 v2)))"},
	)
	becomes(t, row{"", "0"}, row{"fun f x = g x and g y = f y", "(funs v1 v2 (fn v3 (app v2 v3)) (fn v4 (app v1 v4)) 0)"}, row{"val x = 1 val y = x", "(let v1 1 (let v2 v1 0))"})
}

// A name alone takes no question, nor does what always matches.
func TestP9_2Names(t *testing.T) {
	exps(t,
		row{"fn x => x", "(fn v1 v1)"}, row{"fn _ => 1", "(fn v1 1)"}, row{"fn () => 1", "(fn v1 1)"}, row{"fn (x as y) => (x, y)", "(fn v1 (let v2 v1 (block 0 v1 v2)))"}, row{"fn (x, _, y) => x", "(fn v1 (let v2 (field 0 v1) (let v3 (field 2 v1) v2)))"}, row{"fn (x as (_, y)) => y", "(fn v1 (let v2 (field 1 v1) v2))"}, row{"fn ((_, _), (x, _)) => x", "(fn v1 (let v2 (field 1 v1) (let v3 (field 0 v2) v3)))"},
		row{"fn (U x) => x", "(fn v1 (let v2 (field 0 v1) v2))"}, row{"fn (U _) => 1", "(fn v1 1)"}, row{"fn x => case x of y => y end", "(fn v1 (let v2 v1 v2))"}, row{"fn x => case x of _ => 1 end", "(fn v1 1)"}, row{"case 5 of x => x | 6 => 7 end", "(let v1 5 (let v2 v1 v2))"}, row{"try 1 with _ => 2 | Div => 3 end", "(try v1 1 2)"},
	)
	becomes(t, row{"val _ = 1", "(seq 1 0)"}, row{"val () = print \"\"", `(seq (app print "") 0)`}, row{"val (_, _) = (1, 2)", "(seq (block 0 1 2) 0)"}, row{"val (x, y) = (1, 2)", "(let v1 (block 0 1 2) (let v2 (field 0 v1) (let v3 (field 1 v1) 0)))"}, row{"val (x as (y, _)) = (1, 2)", "(let v1 (block 0 1 2) (let v2 (field 0 v1) 0))"})
}

// Each question is a TIf with a TFail in its last place.
func TestP9_2Questions(t *testing.T) {
	exps(t,
		row{"fn 1 => 2", "(fn v1 (catch (if (is 1 v1) 2 fail) (raise (block 0 Match))))"}, row{"fn ~3 => 2", "(fn v1 (catch (if (is -3 v1) 2 fail) (raise (block 0 Match))))"}, row{`fn "a" => 2`, `(fn v1 (catch (if (= v1 "a") 2 fail) (raise (block 0 Match))))`}, row{"fn true => 2", "(fn v1 (catch (if (is 1 v1) 2 fail) (raise (block 0 Match))))"}, row{"fn [] => 2", "(fn v1 (catch (if (is 0 v1) 2 fail) (raise (block 0 Match))))"}, row{"fn (x as A) => x", "(fn v1 (catch (if (is 0 v1) v1 fail) (raise (block 0 Match))))"},
		row{"fn (B x) => x", "(fn v1 (catch (if (isblock 1 v1) (let v2 (field 0 v1) v2) fail) (raise (block 0 Match))))"}, row{"fn (B _) => 1", "(fn v1 (catch (if (isblock 1 v1) 1 fail) (raise (block 0 Match))))"}, row{"fn (C (A, x)) => x", "(fn v1 (catch (if (isblock 2 v1) (let v2 (field 0 v1) (let v3 (field 0 v2) (if (is 0 v3) (let v4 (field 1 v2) v4) fail))) fail) (raise (block 0 Match))))"}, row{"fn (x :: r) => x", "(fn v1 (catch (if (isblock 1 v1) (let v2 (field 0 v1) (let v3 (field 0 v2) (let v4 (field 1 v2) v3))) fail) (raise (block 0 Match))))"},
		row{"fn Div => 1", "(fn v1 (catch (if (same (field 0 v1) Div) 1 fail) (raise (block 0 Match))))"}, row{"let exception E of int in fn (E x) => x end", "(exception E/1 v1 (fn v2 (catch (if (same (field 0 v2) v1) (let v3 (field 1 v2) v3) fail) (raise (block 0 Match)))))"}, row{"fn (1, 2) => 3", "(fn v1 (catch (let v2 (field 0 v1) (if (is 1 v2) (let v3 (field 1 v1) (if (is 2 v3) 3 fail)) fail)) (raise (block 0 Match))))"}, row{"fn (U 1) => 2", "(fn v1 (catch (let v2 (field 0 v1) (if (is 1 v2) 2 fail)) (raise (block 0 Match))))"},
	)
	becomes(t, row{"fun f 1 = 2", "(funs v1 (fn v2 (catch (if (is 1 v2) 2 fail) (raise (block 0 Match)))) 0)"}, row{"val 1 = 2", "(let v1 2 (catch (if (is 1 v1) 0 fail) (raise (block 0 Bind))))"}, row{"val (x as [_]) = [1]", "(let v1 (block 1 (block 0 1 0)) (catch (if (isblock 1 v1) (let v2 (field 0 v1) (let v3 (field 1 v2) (if (is 0 v3) 0 fail))) fail) (raise (block 0 Bind))))"})
}

// Rules are asked one behind the other; what none of them takes raises Match, and in a try goes on being raised.
func TestP9_2Rules(t *testing.T) {
	exps(t,
		row{"fn x => case x of 1 => 2 | 3 => 4 end", "(fn v1 (catch (if (is 1 v1) 2 fail) (catch (if (is 3 v1) 4 fail) (raise (block 0 Match)))))"}, row{"fn x => case x of 1 => 2 | y => y | 3 => 4 end", "(fn v1 (catch (if (is 1 v1) 2 fail) (let v2 v1 v2)))"}, row{"case 5 of 1 => 2 | _ => 3 end", "(let v1 5 (catch (if (is 1 v1) 2 fail) 3))"},
		row{"try 1 with Div => 2 end", "(try v1 1 (catch (if (same (field 0 v1) Div) 2 fail) (raise v1)))"}, row{"try 1 with Div => 2 | Size => 3 end", "(try v1 1 (catch (if (same (field 0 v1) Div) 2 fail) (catch (if (same (field 0 v1) Size) 3 fail) (raise v1))))"}, row{"try 1 with Div => 2 | x => raise x end", "(try v1 1 (catch (if (same (field 0 v1) Div) 2 fail) (let v2 v1 (raise v2))))"},
	)
}
