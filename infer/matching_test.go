package infer

import (
	"testing"

	"mlcore/api"
)

// held writes a structure that is held against a signature, by : and by :>.
func held(specs, decs string) []string {
	return []string{"?structure A : sig " + specs + " end = struct " + decs + " end", "signature S = sig " + specs + " end structure B = struct " + decs + " end ?structure A :> S = B"}
}

func heldAll(rows ...[2]string) []string {
	var list []string
	for _, r := range rows {
		list = append(list, held(r[0], r[1])...)
	}
	return list
}

func TestP5_1Less(t *testing.T) {
	fails(t, api.ErrLess, heldAll(
		[2]string{"val x : int", ""}, [2]string{"val x : int", "val y = 1 type x = int"}, [2]string{"type t", ""}, [2]string{"type t", "val t = 1"}, [2]string{"type t = int", "type u = int"},
		[2]string{"data t = C", "data u = C"}, [2]string{"data t = C", "exception C"}, [2]string{"exception E", ""}, [2]string{"exception E", "exception F"}, [2]string{"exception E", "structure E = struct end"},
		[2]string{"structure B : sig end", ""}, [2]string{"structure B : sig end", "data t = B"}, [2]string{"structure B : sig val x : int end", "structure B = struct end val x = 1"},
		[2]string{"structure B : sig structure C : sig type t end end", "structure B = struct structure C = struct end end structure C = struct type t = int end"},
		// Types and structures come first, then the values in their order; a structure is matched whole when it is come to.
		[2]string{"val x : int type t", "val x = true"}, [2]string{"val x : int structure B : sig end", "val x = true"}, [2]string{"data t = C type u", "type t = int"}, [2]string{"type t type 'a u", "type u = int"},
		[2]string{"val x : int val y : int", "val y = true"}, [2]string{"exception E val y : int", "val y = true"}, [2]string{"structure B : sig val x : int end val y : int type 'a t", "structure B = struct end type t = int"}, [2]string{"val x : int data t = C", "data t = D"},
	)...)
}

func TestP5_1Other(t *testing.T) {
	fails(t, api.ErrOther, heldAll(
		// Types.
		[2]string{"type t", "type 'a t = int"}, [2]string{"type 'a t", "type t = int"}, [2]string{"type ('a, 'b) t", "type 'a t = 'a"}, [2]string{"data 'a t = C", "data t = C"}, [2]string{"type 'a t = int", "type t = int"},
		[2]string{"type t = int", "type t = bool"}, [2]string{"type t = int", "data t = C"}, [2]string{"type 'a t = 'a list", "type 'a t = 'a ref"}, [2]string{"type ('a, 'b) t = 'a * 'b", "type ('a, 'b) t = 'b * 'a"}, [2]string{"type 'a t = 'a", "type 'a t = int"}, [2]string{"type 'a t = int", "type 'a t = 'a"},
		[2]string{"type t type u = t", "type t = int type u = bool"}, [2]string{"type t type u = t * t", "type t = int type u = int * bool"}, [2]string{"type 'a t type u = int t", "type 'a t = 'a list type u = bool list"}, [2]string{"type t = int -> int", "type t = int * int"}, [2]string{"type t = int * int", "type t = int * int * int"},
		// Datatypes.
		[2]string{"data t = C", "type t = int"}, [2]string{"data t = C", "data t = D"}, [2]string{"data t = C | D", "data t = D | C"}, [2]string{"data t = C", "data t = C | D"}, [2]string{"data t = C | D", "data t = C"}, [2]string{"data t = C", "data t = C of int"}, [2]string{"data t = C of int", "data t = C"},
		[2]string{"data t = C of int", "data t = C of bool"}, [2]string{"data t = C of t", "data t = C of u and u = D"}, [2]string{"data 'a t = C of 'a", "data 'a t = C of int"}, [2]string{"data ('a, 'b) t = C of 'a", "data ('a, 'b) t = C of 'b"}, [2]string{"type u data t = C of u", "type u = int data t = C of bool"},
		[2]string{"data t = C", "data u = C type t = u"}, [2]string{"data t = C", "data t = C type t = t"}, [2]string{"data t = C and u = D", "data t = C data u = E"}, [2]string{"data t = C", "data t = C data t = D"}, [2]string{"data t = C of exn", "data t = C of exn -> exn"},
		// Values.
		[2]string{"val x : int", "val x = true"}, [2]string{"val x : 'a", "val x = 1"}, [2]string{"val f : 'a -> 'a", "fun f x = x + 1"}, [2]string{"val f : 'a -> 'b", "fun f x = x"}, [2]string{"val f : 'a -> 'b -> 'a", "fun f x y = y"}, [2]string{"val f : 'a -> 'a -> bool", "fun f x y = x = y"}, [2]string{"val f : int -> int", "fun f x = (x, x)"},
		[2]string{"val f : ('a -> 'a) -> bool", "fun f x = x = x"}, [2]string{"val f : exn -> bool", "fun f x = x = x"}, [2]string{"val f : ''a -> 'a -> bool", "fun f x y = x = y"}, [2]string{"val f : (int -> int) list -> bool", "fun f x = x = x"}, [2]string{"val x : int list", "val x = 1"}, [2]string{"type t val f : t -> bool", "type t = int -> int fun f x = x = x"},
		[2]string{"type t val x : t", "type t = int val x = true"}, [2]string{"type 'a t val x : int t", "type 'a t = 'a list val x = [true]"}, [2]string{"type t type u val f : t -> u", "type t = int type u = bool fun f (x : u) = (1 : t)"}, [2]string{"type 'a t val x : 'a t", "type 'a t = 'a list val x = [1]"},
		// No variable that is open may hold a type like no other.
		[2]string{"val r : 'a list ref", "val r = ref []"}, [2]string{"val f : 'a -> 'a", "val f = (fn x => x) (fn x => x)"}, [2]string{"val f : 'a -> unit", "val r = ref [] fun f x = r := [x]"}, [2]string{"val x : 'a list", "val x = let val y = [] in (fn z => z) y end"}, [2]string{"val f : 'a -> int -> int", "val r = ref [] fun f x y = (r := [x]; y)"},
		// What is open is one type.
		[2]string{"val r : int list ref val f : bool -> unit", "val r = ref [] fun f x = r := [x]"}, [2]string{"val f : int -> int val g : bool -> bool", "val h = ref (fn x => x) fun f x = (!h) x fun g x = (!h) x"},
		// Exceptions.
		[2]string{"exception E", "data t = E"}, [2]string{"exception E", "exception E of int"}, [2]string{"exception E of int", "exception E"}, [2]string{"exception E of int", "exception E of bool"}, [2]string{"exception E of int", "data t = E of int"}, [2]string{"type t exception E of t", "type t = int exception E of bool"}, [2]string{"exception E", "exception E data t = E"},
		// Structures within.
		[2]string{"structure B : sig val x : int end", "structure B = struct val x = true end"}, [2]string{"structure B : sig type t end val x : B.t", "structure B = struct type t = int end val x = true"}, [2]string{"type t structure B : sig val x : t end", "type t = int structure B = struct type t = bool val x = true end"},
		[2]string{"structure B : sig type 'a t end", "structure B = struct type t = int end"}, [2]string{"structure B : sig data t = C end", "structure B = struct type t = int data u = C end"},
		// The first that is met.
		[2]string{"type 'a t type u", "type t = int"}, [2]string{"val x : int val y : int", "val x = true"}, [2]string{"structure B : sig val x : int end type t", "structure B = struct val x = true end"}, [2]string{"data t = C val x : int", "data t = D"}, [2]string{"type t = int val x : int", "type t = bool"},
	)...)
	// A datatype that is shown by type alone is none to a further signature.
	const further = "signature T = sig type t end structure B : T = struct data t = C end "
	fails(t, api.ErrOther, further+"?structure A : sig data t = C end = B", "data u = C structure B : sig type t = u end = struct type t = u end ?structure A : sig data t = C end = B",
		"structure B = struct structure D : sig type t end = struct data t = C end end ?structure A : sig structure D : sig data t = C end end = B", further+"?structure A : sig data t = C end = struct open B exception C end")
	goes(t, "signature T = sig data t = C end structure B :> T = struct data t = C end structure A : T = B structure C :> T = A val x = [A.C, B.C] val y = C.C = C.C")
	// At the declaration, wherever it stands.
	fails(t, api.ErrOther, "structure M = struct val y = 1 ?structure A : sig val x : int end = struct val x = true end end", "structure M : sig type t end = struct ?structure A : sig val x : int end = struct val x = true end end")
	fails(t, api.ErrLess, "structure M = struct structure N = struct ?structure A :> sig val x : int end = struct end end end", "?structure M : sig type t end = struct structure A : sig val x : int end = struct val x = 1 end end")
}

func TestP5_1Matching(t *testing.T) {
	tells(t,
		// Just the names that the signature names, in its order, with the types that it says.
		row{"structure A : sig val b : bool val a : int end = struct val a = 1 val c = 2 val b = true end", "A.b : bool; A.a : int"},
		row{"structure A : sig val f : 'a -> 'a end = struct fun f x = x fun g x = x end", "A.f : 'a -> 'a"}, row{"structure A : sig val f : int -> int end = struct fun f x = x end", "A.f : int -> int"},
		row{"structure A : sig val f : ''a -> ''a -> bool val g : ''a -> 'b -> 'b end = struct fun f x y = x = y fun g x y = y end", "A.f : ''a -> ''a -> bool; A.g : ''a -> 'b -> 'b"},
		row{"structure A : sig val f : 'b -> 'a -> 'b end = struct fun f x y = x end", "A.f : 'a -> 'b -> 'a"}, row{"structure A : sig val f : int list -> bool end = struct fun f x = x = x end", "A.f : int list -> bool"},
		row{"structure A : sig end = struct val x = 1 end", ""}, row{"structure A : sig structure B : sig val x : int end val y : int end = struct val y = 1 structure B = struct val z = 1 val x = 2 end end", "A.B.x : int; A.y : int"},
		// What is open comes to be what is asked for.
		row{"structure A : sig val r : int list ref end = struct val r = ref [] end", "A.r : int list ref"}, row{"structure A = struct val r = ref [] fun f x = r := [x] end structure B : sig val f : int -> unit end = A", "A.r : int list ref; A.f : int -> unit; B.f : int -> unit"},
		// By : types are the structure's own.
		row{"structure A : sig type t val x : t end = struct type t = int val x = 1 end val y = A.x + 1", "A.x : int; y : int"}, row{"structure A : sig type 'a t type u = int t val x : u val f : 'a -> 'a t end = struct type 'a t = 'a * 'a type u = int * int val x = (1, 2) fun f x = (x, x) end", "A.x : int * int; A.f : 'a -> 'a * 'a"},
		row{"structure A : sig type t val x : t end = struct data t = C val x = C end val y = A.x = A.x", "A.x : A.t; y : bool"}, row{"structure A : sig type ('a, 'b) t val x : (int, bool) t end = struct type ('b, 'a) t = 'a -> 'b fun x true = 1 end", "A.x : bool -> int"},
		row{"structure A : sig type 'a t val x : int t t end = struct type 'a t = 'a list val x = [[1]] end", "A.x : int list list"}, row{"structure A : sig type 'a t val x : 'b t end = struct type 'a t = int val x = 1 end", "A.x : int"},
		// Eq is not looked at where types are to be alike.
		row{"structure A : sig type ''a t = ''a list data ''a u = C of ''a end = struct type 'a t = 'a list data 'a u = C of 'a end", ""},
		row{"structure A : sig type u data t = C of u end = struct type u = int data t = C of int end val x = A.C 1 = A.C 2", "x : bool"},
		// The constructors are the datatype's, even where another name hides one.
		row{"structure A : sig data t = C | D end = struct data t = C | D data u = C exception D end val x = [A.C, A.D]", "x : A.t list"},
		row{"structure A : sig data t = C | D val x : t end = struct data t = C | D val x = C data u = C of int end val y = case A.x of A.C => 1 | A.D => 2 end", "A.x : A.t; y : int"},
		row{"structure A :> sig data t = C | D of t end = struct data t = C | D of t exception C end val y = A.D A.C", "y : A.t"},
		row{"structure A = struct data 'a t = C of 'a end structure B : sig data 'a t = C of 'a end = A val x = A.C 1 = B.C 2", "x : bool"}, row{"structure A : sig data ('b, 'a) t = C of 'b * 'a end = struct data ('a, 'b) t = C of 'a * 'b end val x = A.C (1, true)", "x : (int, bool) A.t"},
		row{"structure A : sig data t = C of u and u = D of t end = struct data t = C of u and u = D of t end val f = fn (A.C (A.D x)) => x", "f : A.t -> A.t"},
		row{"structure A : sig data u = D data t = C of u end = struct data t = C of u and u = D end val x = A.C A.D", "x : A.t"},
		// Exceptions stay what they are.
		row{"structure A : sig exception E of int exception F end = struct exception F exception E of int end val x = try raise A.F with A.E n => n | A.F => 2 end", "x : int"},
		// The signature's types may come behind its structures' and values' ones in the structure.
		row{"structure A : sig type t val x : t structure B : sig val y : t end end = struct structure B = struct val y = 1 end val x = 2 type t = int end", "A.x : int; A.B.y : int"},
		row{"structure A : sig structure B : sig type t val y : t end structure C : sig val z : B.t end end = struct structure B = struct data t = T val y = T end structure C = struct val z = B.T end end", "A.B.y : A.B.t; A.C.z : A.B.t"},
	)
	fails(t, api.ErrName,
		"structure A : sig end = struct val x = 1 end val y = ?A.x", "structure A : sig type t end = struct data t = C end val y = ?A.C", "structure A : sig type t end = struct data t = C end fun f ?A.C = 1", "structure A : sig val x : int end = struct type t = int val x = 1 end val y = (1 : ?A.t)", "structure A : sig end = struct structure B = struct end end ?open A.B",
		"structure A : sig structure B : sig end end = struct structure B = struct val x = 1 end end val y = ?A.B.x", "structure A : sig data t = C end = struct data t = C data u = D end val x = ?A.D", "structure A : sig end = struct exception E end val x = raise ?A.E",
	)
	// First the signature, then the structure, then both.
	fails(t, api.ErrName, "structure A : sig val x : ?t end = struct val x = y end", "structure A : sig val x : int end = struct val y = ?z end", "structure A : sig val x : int end = ?B", "structure A : ?S = B", "structure A : sig val x : ?A.t end = struct type t = int val x = 1 end")
	fails(t, api.ErrType, "structure A : sig val r : int list ref end = struct val r = ref [] end val x = A.r := ?[true]", "structure A = struct val r = ref [] end structure B : sig val r : int list ref end = A val x = A.r := ?[true]", "structure A : sig val f : int -> int end = struct fun f x = x end val x = A.f ?true")
}

func TestP5_1Hidden(t *testing.T) {
	tells(t,
		row{"structure A :> sig type t val x : t end = struct type t = int val x = 1 end val y = A.x", "A.x : A.t; y : A.t"}, row{"structure A :> sig type 'a t val f : 'a -> 'a t end = struct type 'a t = 'a list fun f x = [x] end val y = A.f 1", "A.f : 'a -> 'a A.t; y : int A.t"},
		// Each open type is a new one, and all types are said by these.
		row{"structure A :> sig type t type u = t list val x : u end = struct type t = int type u = int list val x = [1] end val y = case A.x of z :: _ => z end", "A.x : A.t list; y : A.t"}, row{"structure A :> sig type t = int val x : t end = struct type t = int val x = 1 end val y = A.x + 1", "A.x : int; y : int"},
		row{"structure A :> sig data t = L | N of t val x : t end = struct data t = L | N of t val x = N L end val b = A.x = A.N A.L", "A.x : A.t; b : bool"}, row{"structure A :> sig type t data u = C of t val x : u end = struct type t = int data u = C of int val x = C 1 end val A.C y = A.x", "A.x : A.u; y : A.t"},
		row{"structure A = struct data t = C end structure B :> sig data t = C end = A val x = (A.C, B.C)", "x : A.t * B.t"},
		// They are called by the structure's path.
		row{"structure M = struct structure A :> sig type t val x : t end = struct type t = int val x = 1 end val y = A.x end", "M.A.x : M.A.t; M.y : M.A.t"}, row{"structure A :> sig structure B : sig type t val x : t end val y : B.t end = struct structure B = struct type t = int val x = 1 end val y = 2 end", "A.B.x : A.B.t; A.y : A.B.t"},
		row{"structure B = struct data t = C val x = C end structure A :> sig type t val x : t end = B structure C = A", "B.x : B.t; A.x : A.t; C.x : A.t"}, row{"structure A = struct structure B : sig type t val x : t end = struct data t = C val x = C end end", "A.B.x : A.B.t"},
		row{"structure A = struct structure B = struct data t = C end structure C = struct val x = B.C structure D = struct data t = C val y = (C, B.C) end end data t = E val z = E end data t = F val z = F", "A.C.x : A.B.t; A.C.D.y : A.C.D.t * A.B.t; A.z : A.t; z : t"},
		// With the Eq that the signature says.
		row{"structure A :> sig data t = C of int end = struct data t = C of int end val x = A.C 1 = A.C 2", "x : bool"}, row{"structure A :> sig data 'a t = C of 'a val f : 'a t -> 'a end = struct data 'a t = C of 'a fun f (C x) = x end fun g x = A.C x = A.C x", "A.f : 'a A.t -> 'a; g : ''a -> bool"},
		row{"structure A :> sig type 'a t val x : int t ref end = struct type 'a t = 'a list val x = ref [1] end val y = A.x = A.x", "A.x : int A.t ref; y : bool"},
		// Behind : nothing is hidden by another declaration of its names.
		row{"structure A = struct data t = C end structure B : sig type t val x : t end = struct type t = A.t val x = A.C end val y = B.x = A.C", "B.x : A.t; y : bool"},
	)
	fails(t, api.ErrType,
		"structure A :> sig type t val x : t end = struct type t = int val x = 1 end val y = ?A.x + 1", "structure A :> sig type t val f : t -> t end = struct type t = int fun f x = x end val y = A.f ?1", "structure A = struct data t = C end structure B :> sig data t = C end = A val x = [A.C, ?B.C]",
		"structure A :> sig type t type u val x : t val y : u end = struct type t = int type u = int val x = 1 val y = 2 end val z = [A.x, ?A.y]", "structure A :> sig type 'a t val x : int t val f : bool t -> bool end = struct type 'a t = int val x = 1 fun f x = true end val y = A.f ?A.x",
		"structure B = struct structure A :> sig type t val x : t end = struct type t = int val x = 1 end val y = ?A.x + 1 end",
	)
	fails(t, api.ErrEqual,
		"structure A :> sig type t val x : t end = struct type t = int val x = 1 end val y = ?A.x = A.x", "structure A :> sig type 'a t val x : int t end = struct type 'a t = 'a ref val x = ref 1 end val y = ?A.x = A.x", "structure A :> sig type t data u = C of t val x : u end = struct type t = int data u = C of int val x = C 1 end val y = ?A.x = A.x",
		"structure A :> sig type t val x : t list end = struct type t = int val x = [1] end val y = ?A.x = A.x", "structure A : sig type t val x : t end = struct data t = C of int -> int val x = C (fn x => x) end val y = ?A.x = A.x",
	)
}
