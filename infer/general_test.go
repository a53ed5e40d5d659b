package infer

import (
	"strings"
	"testing"

	"mlcore/api"
)

// Which expressions only make a value.
func TestP4_1Values(t *testing.T) {
	const ahead = "data 'a d = A of 'a | B exception E of int fun id x = x "
	for _, text := range []string{
		"[]", "B", "A", "A []", "A (A [])", "id", "fn x => x", "fn x => id x", "fn x => ref x", "([], B)", "(1, \"a\", [])", "[[]]", "[[], []]",
		"[] :: []", "id :: []", "(1, fn x => x)", "[A B]", "(fn x => x) :: [id]", "A (fn x => x, [B])", "(E 1, [])", "((1 :: []) :: [[]], [])",
	} {
		tellsGeneral(t, ahead+"val it = "+text, true)
	}
	for _, text := range []string{
		"id []", "(id [], 1)", "[id []]", "id id", "(fn x => x) []", "[] :: id []", "id [] :: []", "(fn x => x) (fn x => x)", "A (id [])", "A (id id)",
		"if true then [] else []", "case 1 of _ => [] end", "try [] with Div => [] end", "raise Div", "let in [] end", "(1; [])", "ref []", "!(ref [])",
		"((id [], 1), [])", "[[], id []]", "(([]; []), [])",
	} {
		tellsGeneral(t, ahead+"val it = "+text, false)
	}
	tells(t,
		row{"fun id x = x val f = (id id : int -> int)", "id : 'a -> 'a; f : int -> int"},
		row{"data 'a d = A of 'a val x = ((A []) : int list d)", "x : int list d"},
	)
}

// tellsGeneral holds the last name of a program to have a variable that stands for any type, or none.
func tellsGeneral(t *testing.T, text string, general bool) {
	t.Helper()
	list, f := Infer(text)
	if f.Kind != api.OK {
		t.Errorf("%s: %v", text, f)
		return
	}
	last := list[len(list)-1].Type
	if strings.Contains(last, "'") != general {
		t.Errorf("%s: %s", text, last)
	}
}

// EHas of a value is one, too; a written type has no variables, so that another has to bring them.
func TestP4_1ValueWithItsType(t *testing.T) {
	tells(t,
		row{"data 'a d = A of 'a val (x, f) = (([] : int list), fn y => y)", "x : int list; f : 'a -> 'a"},
		row{"fun id x = x val (x, f) = ((id [] : int list), fn y => y)", "id : 'a -> 'a; x : int list; f : unit -> unit"},
		row{"val (x, f) = ((1 + 1 : int), fn y => y)", "x : int; f : unit -> unit"},
		row{"val (x, f) = ((1 : int), fn y => y)", "x : int; f : 'a -> 'a"},
		row{"val (x, f) = (~1, fn y => y)", "x : int; f : unit -> unit"},
		row{"val (x, f) = (1 = 1, fn y => y)", "x : bool; f : unit -> unit"},
		row{"val (x, f) = (true andalso true, fn y => y)", "x : bool; f : unit -> unit"},
	)
}

func TestP4_3General(t *testing.T) {
	tells(t,
		// At the top nothing is held but what is open.
		row{"val f = fn x => x val g = (f 1, f true)", "f : 'a -> 'a; g : int * bool"},
		row{"val r = ref [] val f = fn x => r", "r : unit list ref; f : 'a -> unit list ref"},
		row{"val r = ref [] fun f x = (r := [x]; x)", "r : unit list ref; f : unit -> unit"},
		row{"val r = ref [] fun f x = (r := [x]; x) val y = f 1", "r : int list ref; f : int -> int; y : int"},
		row{"val r = ref [] val f = fn x => r := x val y = f [true]", "r : bool list ref; f : bool list -> unit; y : unit"},
		row{"val r = ref [] val p = (r, []) val q = (r, fn x => x)",
			"r : unit list ref; p : unit list ref * 'a list; q : unit list ref * ('a -> 'a)"},
		row{"val x = raise Div val f = fn y => [x, y] val g = fn () => x", "x : unit; f : unit -> unit list; g : unit -> unit"},
		row{"val x = raise Div val f = fn y => [x, y] val z = f 1", "x : int; f : int -> int list; z : int list"},
		row{"val x = raise Div val (y, z) = (x, x) val f = fn w => [y, w] val a = z ^ \"\"", "x : string; y : string; z : string; f : string -> string list; a : string"},
		row{"val r = ref [] val s = ref [] val a = fn x => r := !s val f = fn x => r := x val b = s := [1]",
			"r : int list ref; s : int list ref; a : 'a -> unit; f : int list -> unit; b : unit"},
		// Each name by itself.
		row{"val (f, g) = (fn x => x, fn y => (y, y))", "f : 'a -> 'a; g : 'a -> 'a * 'a"},
		row{"val (x, y) = ([], [])", "x : 'a list; y : 'a list"},
		row{"fun f x = g x and g x = f x val a = f 1 + 1 val b = (g true; 2)", "f : 'a -> 'b; g : 'a -> 'b; a : int; b : int"},
		// What enclosing patterns and functions have is held.
		row{"fun f x = let val y = x in (y, y) end", "f : 'a -> 'a * 'a"},
		row{"fun f x = let val y = fn z => x in (y 1, y true) end", "f : 'a -> 'a * 'a"},
		row{"fun f x = let val y = [x] val z = [] in (1 :: z, true :: z, y) end", "f : 'a -> int list * bool list * 'a list"},
		row{"fun f x = let fun g y = (x, y) in (g 1, g true) end", "f : 'a -> ('a * int) * ('a * bool)"},
		row{"val f = fn x => case x of y => let val z = y in z end end", "f : 'a -> 'a"},
		row{"fun f x = let fun g y = f y in x end", "f : 'a -> 'a"},
		// What is hidden is held as long as what hides it speaks of it.
		row{"fun f x = let val x = fn y => x in (x 1, x true) end", "f : 'a -> 'a * 'a"},
		row{"fun f x = let val x = [x] val x = fn y => x val y = x 1 val z = x true in y = z end", "f : ''a -> bool"},
		// Compared ones stand for compared types.
		row{"val f = fn x => x = x", "f : ''a -> bool"}, row{"fun f x y = (x = x, y)", "f : ''a -> 'b -> bool * 'b"},
		row{"fun f x = let fun g y = x = y in (g x, g) end", "f : ''a -> bool * (''a -> bool)"},
		row{"fun f x = let fun g y = (y = y, x) in g end", "f : 'a -> ''b -> bool * 'a"},
	)
	fails(t, api.ErrType,
		"val f = fn g => (g 1, g ?true)", "fun f g = (g 1, g ?true)", "val r = ref [] val a = r := [1] val b = r := ?[true]",
		"fun f x = let val y = x in (y + 1, ?y ^ \"a\") end", "fun f x = let fun g y = (x = y) in (g 1, g ?true) end",
		"fun f x = let val y = f 1 in f ?true end", "fun id x = x val f = id id val a = (f 1, f ?true)",
		"fun f x = case x of g => (g 1, g ?true) end", "fun f x = let val g = x in (g 1, g ?true) end", "fun f x = let fun g y = x y in (g 1, g ?true) end",
		"fun f g = g and h y = (f 1, f ?true)",
	)
	fails(t, api.ErrEqual, "fun f x = let fun g y = x = y in g end val h = f ?f", "val f = fn x => x = x val g = f ?f", "fun f x = (let fun g y = x = y in g end; x) val a = f ?not")
}
