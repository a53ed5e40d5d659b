package infer

import (
	"strings"
	"testing"

	"mlcore/api"
)

func TestP4_1WrittenTypes(t *testing.T) {
	tells(t,
		row{"val x = ([] : (int * string) list)", "x : (int * string) list"},
		row{"fun f (x : int -> bool -> unit) = x 1 true", "f : (int -> bool -> unit) -> unit"},
		row{"fun f (x : (int -> bool) list ref array) = x", "f : (int -> bool) list ref array -> (int -> bool) list ref array"},
		row{"fun f x : exn = x", "f : exn -> exn"},
		row{"type t = int fun f (x : t) = x + 1", "f : int -> int"},
		row{"type 'a t = 'a * 'a fun f (x : int t) = x", "f : int * int -> int * int"},
		row{"type ('a, 'b) t = 'b -> 'a fun f (x : (int, bool) t) = x true", "f : (bool -> int) -> int"},
		row{"type 'a t = int fun f (x : bool t) = x", "f : int -> int"},
		row{"type ('a, 'b) t = 'a * 'b type 'b u = ('b, 'b list) t type 'a v = ('a u, 'a) t fun f (x : int v) = x",
			"f : (int * int list) * int -> (int * int list) * int"},
		row{"type ''a t = ''a list fun f (x : (int -> int) t) = x", "f : (int -> int) list -> (int -> int) list"},
		row{"type ('a, ''a) t = 'a * ''a fun f (x : (int, bool) t) = x", "f : int * bool -> int * bool"},
		row{"type t = int type t = t list fun f (x : t) = x", "f : int list -> int list"},
		row{"type int = bool fun f (x : int) = x val y = 1", "f : bool -> bool; y : int"},
		row{"type int = int * int fun f (x : int) = x", "f : int * int -> int * int"},
		row{"val t = 1 type t = bool val x = t", "t : int; x : int"},
	)
	fails(t, api.ErrName,
		"val x = (1 : ?t)", "val x = (1 : ?'a)", "fun f (x : ?'a) = x", "fun f (x : ?''a list) = x", "fun f x : ?'a = x", "exception E of ?'a",
		"exception E of int * (?'a list)", "type t = ?'a", "type 'a t = ?'b", "type 'a t = ?''a", "type 'a t = 'a * (?u)", "type t = ?t",
		"data 'a t = A of ?'b", "data 'a t = A of 'a and u = B of ?'a", "data t = A of ?u data u = B",
		"val x = (1 : ?A.t)", "val x = (1 : (?t) list list bool)", "val x = (1 : (?t * u))", "val x = (1 : int -> ?t -> u)",
		"val x = (1 : ?(int, bool) t)", "type 'a t = 'a val x = (1 : ?'a t)", "val x = (1 : ?int t list)", "val x = 1 val y = (1 : ?x)",
		"val x = (1 : ?(int) Int.int)", "data t = T val x = (1 : ?(int list, t) u)",
	)
	fails(t, api.ErrArity,
		"val x = (1 : ?list)", "val x = (1 : ?int int)", "val x = (1 : ?(int, int) list)", "val x = (1 : ?int list list bool)",
		"type 'a t = int val x = (1 : ?t)", "type t = int val x = (1 : ?int t)", "data ('a, 'b) t = A val x = (1 : ?int t)",
		"data ('a, 'b) t = A of ?'a t", "data t = A of (int -> ?int t)", "exception E of ?ref", "val x = (1 : (?list, int) int)",
	)
	fails(t, api.ErrTwice, "type ('a, ?'a) t = int", "type ('a, 'b, ?'a, 'b) t = u", "data ('a, ?'a) t = A | A", "data t = A and (''a, ?''a) u = B of v")
}

// ints is a product of so many ints, which has one part more.
func ints(n int) string { return strings.Repeat("int * ", n-1) + "int" }

// ones is a tuple of so many numbers.
func ones(n int) string { return "(" + strings.Repeat("1, ", n-1) + "1)" }

func TestP4_1BigWrittenTypes(t *testing.T) {
	most, more := ints(api.MaxType-1), ints(api.MaxType)
	goes(t,
		"type t = "+most,
		"data t = A of "+most,
		"exception E of "+most,
		"type 'a t = int type u = ("+most+") t",
		"fun f (x : exn) = raise x val x = (f Div : "+most+")",
		"type t = "+ints(199)+" type u = t * "+ints(198),
		"type t = "+ints(199)+" type u = t -> "+ints(198),
		"type t = "+ints(398)+" type u = t list",
		"type 'a t = 'a * 'a type u = ("+ints(198)+") t",
	)
	fails(t, api.ErrBig,
		"type t = ?"+more,
		"data t = A of ?"+more,
		"exception E of ?"+more,
		"val x = (1 : ?"+more+")",
		"fun f (x : (?"+more+") list) = x",
		"type 'a t = int type u = (?"+more+") t",
		"type t = "+ints(199)+" type u = ?t * ("+ints(199)+")",
		"type t = "+ints(199)+" type u = ?t -> "+ints(199),
		"type t = "+most+" type u = ?t list type v = w",
		"type 'a t = 'a * 'a type u = ?("+ints(199)+") t",
		"type 'a t = 'a * 'a type 'a u = 'a t t t t type 'a w = ?'a u u u",
	)
	// Kids come first, and a name or an arity ahead of the type that they make.
	fails(t, api.ErrName, "val x = (1 : ?("+most+") t)", "type t = (?u) * "+more)
	fails(t, api.ErrArity, "val x = (1 : ?("+most+") int)")
}

func TestP4_1Data(t *testing.T) {
	tells(t,
		row{"data t = A | B of int val x = A val y = B val z = B 1", "x : t; y : int -> t; z : t"},
		row{"data 'a t = A | B of 'a * 'a t val x = A val y = B val z = B (1, A)", "x : 'a t; y : 'a * 'a t -> 'a t; z : int t"},
		row{"data ('a, 'b) t = A of 'b | B of 'a val x = A val y = [A 1, B true]", "x : 'a -> ('b, 'a) t; y : (bool, int) t list"},
		row{"data 'a t = A of 'a u and 'b u = B of 'b t | C fun f x = A (B x)", "f : 'a t -> 'a t"},
		row{"data t = A of u and u = B of t list val x = A (B [])", "x : t"},
		row{"data t = A data t = B val x = A val y = B", "x : t; y : t"},
		row{"data t = A data u = A of t val x = A", "x : t -> u"},
		row{"data int = A of int val x = 1 fun f (A x) = x", "x : int; f : int -> int"},
		row{"exception A data t = A val x = A", "x : t"},
		row{"data ''a t = A of ''a val f = A fun g x = A [x]", "f : ''a -> ''a t; g : ''a -> ''a list t"},
		row{"data ('a, ''a) t = A of 'a * ''a val f = A", "f : 'a * ''b -> ('a, ''b) t"},
		row{"data 'a t = A of 'a fun f (A x) = x type 'a u = ('a * 'a) t fun g (x : int u) = f x", "f : 'a t -> 'a; g : (int * int) t -> int * int"},
		row{"data u = U of t list and t = T fun f (U (x :: _)) = x", "f : u -> t"},
	)
	fails(t, api.ErrType,
		"data t = A val x = A data t = A val y = [x, ?A]", "data t = A data t = B val x = [A, ?B]", "data t = A val x = ?A + 1",
		"data int = A of int val x = A ?1", "data t = A of int val x = A ?true", "data t = A val x = A ?1", "data t = A of t val x = ?(A : t)",
	)
	fails(t, api.ErrTwice,
		"data t = A | ?A", "data t = A of int | ?A of u", "data t = A and u = ?A", "data t = A and ?t = B", "data 'a t = A of int and ?t = A", "data t = A of int | B and u = C | ?B | A",
		"data t = A | A and ?t = B", "data t = A of w and ('a, ?'a) u = B", "data t = A and ?'a t = B", "data t = A and u = B and ?t = C",
	)
	fails(t, api.ErrName, "data t = A of ?u | A", "data t = A of int | B of ?u and u2 = A", "data t = B val x = ?A")
	fails(t, api.ErrEqual, "data ''a t = A of ''a val x = A (?fn x => x)", "data ''a t = A of ''a val x = A ?Div")
}

// Which types of a data are compared.
func TestP4_1DataCompared(t *testing.T) {
	for _, r := range []struct {
		data, compared, not string
	}{
		{"data t = A | B of int", "t", ""},
		{"data t = A of exn", "", "t"},
		{"data t = A of int | B of int -> int", "", "t"},
		{"data t = A of (int -> int) ref | B of (int -> int) array", "t", ""},
		{"data 'a t = A of 'a", "int t; int ref t; int list t", "(int -> int) t; exn t; int t * exn"},
		{"data 'a t = A of 'a -> 'a", "", "int t"},
		{"data 'a t = A of 'a ref", "int t", "exn t"},
		{"data 'a t = A", "int t", "exn t"},
		{"data ''a t = A of ''a", "int t", "exn t"},
		{"data t = A of t list | B of t * t", "t; t list", ""},
		{"data t = A of u and u = B of t", "t; u", ""},
		{"data t = A of u and u = B of t | C of exn", "", "t; u"},
		{"data t = A of u and u = B | C of exn", "", "t; u"},
		{"data u = B | C of exn and t = A of u", "", "t; u"},
		{"data t = A of u and u = B and v = C of t -> t", "t; u", "v"},
		{"data t = A of u and u = B of v and v = C of w and w = D of exn | E of t", "", "t; u; v; w"},
		{"data t = A of u ref and u = B of exn", "t; u ref", "u"},
		{"data 'a t = A of ('a -> int) t | B", "", "int t"},
		{"data 'a t = A of 'a u and 'a u = B of ('a * exn) t | C", "", "int t; int u"},
		{"data 'a t = A of 'a list t | B of 'a", "int t", "exn t"},
		{"data v = V of exn type u = v data t = A of u", "", "t"},
		{"data v = V type 'a u = 'a * v data t = A of int u", "t; int u", "exn u"},
		{"data t = A of exn data t = B of t", "t", ""},
		{"data t = A of exn data u = B of t", "", "u"},
		{"data t = A of exn and u = B data t = C of u", "t; u", ""},
		{"data int = A of exn", "string", "int"},
	} {
		for _, of := range strings.Split(r.compared, "; ") {
			if of != "" {
				goes(t, r.data+" fun same (x : "+of+") = x = x")
			}
		}
		for _, of := range strings.Split(r.not, "; ") {
			if of != "" {
				fails(t, api.ErrEqual, r.data+" fun same (x : "+of+") = ?x = x")
			}
		}
	}
	fails(t, api.ErrEqual, "data t = A of int -> int val b = ?A (fn x => x) = A (fn x => x)", "val b = ?Div = Div", "exception E of int val b = ?E 1 = E 1",
		"fun f x = x = x val y = f ?f", "fun f x = x = x val y = f ?Div", "fun f x = x = x val y = f ?[(1, Div)]")
}

func TestP4_1Exceptions(t *testing.T) {
	tells(t,
		row{"exception E val x = E", "x : exn"}, row{"exception E of int * bool val x = E val y = E (1, true)", "x : int * bool -> exn; y : exn"},
		row{"exception E exception E of int fun f x = try raise E 1 with E y => y + x end", "f : int -> int"},
		row{"data t = Div val x = Div", "x : t"},
		row{"type t = int list exception E of t fun f (E l) = l", "f : exn -> int list"},
	)
	fails(t, api.ErrType, "exception E of int val x = raise ?E", "exception E of int val x = E ?true", "exception E val x = E ?1")
	fails(t, api.ErrName, "exception E of ?t", "val x = ?E exception E")
}

func TestP4_1Funs(t *testing.T) {
	tells(t,
		row{"fun f x = x", "f : 'a -> 'a"}, row{"fun f x y z = (z, x)", "f : 'a -> 'b -> 'c -> 'c * 'a"},
		row{"fun f x = g x and g x = f x", "f : 'a -> 'b; g : 'a -> 'b"},
		row{"fun f x = g 1 and g y = y", "f : 'a -> int; g : int -> int"},
		row{"fun f x = x and g y = (f 1, y)", "f : int -> int; g : 'a -> int * 'a"},
		row{"fun f x = x fun g y = (f 1, f true)", "f : 'a -> 'a; g : 'a -> int * bool"},
		row{"fun f 0 = 1 fun g [] (x, _) true = x", "f : int -> int; g : 'a list -> 'b * 'c -> bool -> 'b"},
		row{"fun f x : int = x", "f : int -> int"},
	)
	fails(t, api.ErrCircle, "fun ?f x = f", "fun f x = 1 and ?g x = g", "fun f x = f ?f")
	fails(t, api.ErrTwice, "fun f x = y and ?f y = x", "fun f x = x and g x = x and ?g y = y and f x = x", "fun f (x, x) = x and ?f y = y")
	fails(t, api.ErrType,
		"fun f x = x + 1 and g x = f ?true", "fun f x = g 1 and ?g true = 1", "fun ?f x = if true then 1 else f x 1",
		"fun f x : int = ?x ^ \"\"", "fun f x : bool = ?1",
	)
	fails(t, api.ErrName, "fun f x = ?y", "fun f x = ?y and f2 y = y", "fun f x = g x and g y = ?x", "val f = fn x => ?f x", "fun f x = (?x2 : t)", "fun f x : ?t = x")
}
