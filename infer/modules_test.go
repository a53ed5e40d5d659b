package infer

import (
	"strings"
	"testing"

	"mlcore/api"
)

const (
	sigS  = "signature S = sig type t val z : t val s : t -> t end "
	bodyS = "struct type t = int val z = 0 fun s x = x + 1 end "
)

// modulePrograms have types, and structures.
var modulePrograms = []row{
	{sigS + "structure A : S = " + bodyS + "val y = A.z + 1", "A.z : int; A.s : int -> int; y : int"},
	{sigS + "structure A :> S = " + bodyS + "val y = A.s A.z", "A.z : A.t; A.s : A.t -> A.t; y : A.t"},
	{"structure S :> sig type t val make : int -> t val get : t -> int end = struct type t = int fun make n = n + 1 fun get n = n end val x = S.get (S.make 1)",
		"S.make : int -> S.t; S.get : S.t -> int; x : int"},
	{"structure A = struct structure B = struct data t = C of int val c = C 1 end open B val d = c end val e = A.B.C 2",
		"A.B.c : A.B.t; A.c : A.B.t; A.d : A.B.t; e : A.B.t"},
	{"structure Set :> sig type 'a t val none : 'a t val put : ''a * ''a t -> ''a t val has : ''a -> ''a t -> bool end = struct type 'a t = 'a list val none = [] fun has x l = case l of [] => false | y :: r => x = y orelse has x r end fun put (x, l) = if has x l then l else x :: l end val b = Set.has 1 (Set.put (2, Set.none))",
		"Set.none : 'a Set.t; Set.put : ''a * ''a Set.t -> ''a Set.t; Set.has : ''a -> ''a Set.t -> bool; b : bool"},
	{"structure A = struct exception E of int fun f x = raise E x end val x = try A.f 3 with A.E n => n end", "A.f : int -> 'a; x : int"},
	{"signature T = sig structure A : sig data 'a o = N | S of 'a end type u = int A.o val f : 'a -> 'a A.o end structure M : T = struct structure A = struct data 'a o = N | S of 'a end type u = int A.o fun f x = A.S x end val y = case M.f 1 of M.A.S n => n | M.A.N => 0 end",
		"M.f : 'a -> 'a M.A.o; y : int"},
	{"structure Q = struct structure I :> sig type t val q : t val push : int * t -> t end = struct type t = int list val q = [] fun push (x, q) = x :: q end val two = I.push (1, I.push (2, I.q)) end structure R = Q val three = R.I.push (3, Q.two)",
		"Q.I.q : Q.I.t; Q.I.push : int * Q.I.t -> Q.I.t; Q.two : Q.I.t; R.I.q : Q.I.t; R.I.push : int * Q.I.t -> Q.I.t; R.two : Q.I.t; three : Q.I.t"},
	{"signature O = sig type t val less : t * t -> bool end structure Int : O = struct type t = int fun less (x, y) = x < y end fun sort l = let open Int fun put x l = case l of [] => [x] | y :: r => if less (x, y) then x :: l else y :: put x r end in case l of [] => [] | x :: r => put x (sort r) end end",
		"Int.less : int * int -> bool; sort : int list -> int list"},
}

// The chapter's examples, the document's, and some of their kind.
func TestP5_1Programs(t *testing.T) { tells(t, modulePrograms...) }

func TestP5_1Structures(t *testing.T) {
	tells(t,
		row{"structure A = struct end", ""},
		row{"structure A = struct val x = 1 end val x = true val y = (x, A.x)", "A.x : int; x : bool; y : bool * int"},
		// Its declarations know what is there, and what they declare.
		row{"val x = 1 structure A = struct val y = x val x = true val z = x end val w = x", "x : int; A.y : int; A.x : bool; A.z : bool; w : int"},
		row{"structure A = struct type t = int structure B = struct type u = t fun f (x : u) = x end val y = B.f 1 end fun g (x : A.B.u) = A.y + x",
			"A.B.f : int -> int; A.y : int; g : int -> int"},
		row{"structure A = struct val x = 1 end structure A = struct val y = A.x end val z = A.y", "A.x : int; A.y : int; z : int"},
		// Values, types and structures are sorts of their own, and signatures another.
		row{"signature A = sig type t val t : t end structure A : A = struct type t = int structure A = struct val t = true end val t = 1 data u = A end structure B : A = A val x = (A.t : A.t)",
			"A.t : int; B.t : int; x : int"},
		row{"structure A = struct data t = A of int structure A = struct val x = 1 end val y = A A.x end val z = A.A A.A.x", "A.A.x : int; A.y : A.t; z : A.t"},
		// A name that comes again stands where it came last.
		row{"structure A = struct val x = 1 val y = x val x = true end", "A.y : int; A.x : bool"},
		row{"structure A = struct structure B = struct val x = 1 end val y = 2 structure B = struct val z = 3 end end", "A.y : int; A.B.z : int"},
		row{"structure A = struct fun f x = x and g x = 1 val (h, f) = (1, 2) end", "A.g : 'a -> int; A.h : int; A.f : int"},
		row{"structure A = struct data t = C exception C val x = try 1 with C => 2 end end val y = try 1 with A.C => 2 end", "A.x : int; y : int"},
		// A path has the same names, and the same types.
		row{"structure A = struct data t = C val x = C structure B = struct val y = x end end structure D = A structure E = D.B val z = [A.C, D.x, E.y] fun f (x : D.t) = x = A.C",
			"A.x : A.t; A.B.y : A.t; D.x : A.t; D.B.y : A.t; E.y : A.t; z : A.t list; f : A.t -> bool"},
		// Exceptions and constructors have no typings, but are there by their paths, in patterns too.
		row{"structure A = struct exception E of int exception F data 'a t = C of 'a | D end val x = try raise A.E 1 with A.E n => n | A.F => 2 end val y = case A.C 1 of A.C n => n | A.D => 0 end",
			"x : int; y : int"},
		// What is open in a structure is found by what comes later, if by nothing it is unit; and is not general elsewhere.
		row{"structure A = struct val r = ref [] val s = ref [] end val x = A.r := [1]", "A.r : int list ref; A.s : unit list ref; x : unit"},
		row{"structure A = struct structure B = struct val r = ref [] end end fun f x = (A.B.r := [x]; x) val y = f 1", "A.B.r : int list ref; f : int -> int; y : int"},
		row{"structure A = struct val r = ref [] end structure B = A structure A = struct end fun f x = (B.r := [x]; x) val y = f 1", "A.r : int list ref; B.r : int list ref; f : int -> int; y : int"},
		row{"structure A = struct val r = ref [] fun f x = r := [x] fun id x = x end val y = (A.id 1, A.id true) val z = A.f 1", "A.r : int list ref; A.f : int -> unit; A.id : 'a -> 'a; y : int * bool; z : unit"},
	)
	fails(t, api.ErrName,
		"structure A = struct val x = 1 end val y = ?x", "structure A = struct val x = 1 end val y = ?A.y", "structure A = struct val y = ?A.x end", "val y = ?A.x",
		"structure A = struct structure B = struct val x = 1 end end val y = ?B.x", "structure A = struct structure B = struct val x = 1 end val z = 1 end val y = ?A.x",
		"structure A = struct val x = 1 end val y = ?A.A.x", "structure A = struct val x = 1 end val y = ?A.B.x", "structure A = struct val x = 1 end structure B = struct end val y = ?A.B.x",
		"structure A = struct data t = C end val x = ?C", "structure A = struct data t = C end val ?C = 1", "structure A = struct data t = C end val ?A.D = 1", "structure A = struct exception E end val x = raise ?E",
		"structure A = struct type t = int end val x = (1 : ?t)", "structure A = struct type t = int end val x = (1 : ?A.u)", "val x = (1 : ?A.t)", "structure A = struct val t = 1 end val x = (1 : ?A.t)",
		"structure A = ?B", "structure A = ?A", "structure A = struct structure B = ?A end", "structure A = struct structure B = struct end end structure C = ?B", "structure A = struct end structure C = ?A.B",
		"signature A = sig end structure B = ?A", "structure A = struct structure B = struct val x = ?y end val y = 1 end",
	)
	fails(t, api.ErrArity, "structure A = struct data t = C of int end val ?A.C = 1", "structure A = struct data t = C end val ?A.C 1 = 1", "structure A = struct type 'a t = 'a end val x = (1 : ?A.t)", "structure A = struct type t = int end val x = (1 : ?int A.t)")
	fails(t, api.ErrType,
		"structure A = struct data t = C end structure B = struct data t = C end val x = [A.C, ?B.C]", "structure A = struct data t = C end structure A = struct val x = A.C data t = C end val x = [A.x, ?A.C]",
		"data t = C structure A = struct data t = C end val x = [A.C, ?C]", "structure A = struct val r = ref [] val x = r := [1] val y = r := ?[true] end", "structure A = struct val r = ref [] end val x = A.r := [1] val y = A.r := ?[true]",
		"structure A = struct val r = ref [] end fun f x = A.r := [x] val x = (f 1, f ?true)", "structure A = struct structure B = struct val r = ref [] end end structure C = A.B fun f x = C.r := [x] val x = (f 1, f ?true)",
	)
}

func TestP5_1Open(t *testing.T) {
	const a = "structure A = struct val x = 1 data t = C of int exception E structure B = struct val y = x end end "
	tells(t,
		row{a + "open A val z = C (x + B.y) val w = try raise E with E => z end fun f (u : t) = u", "A.x : int; A.B.y : int; z : A.t; w : A.t; f : A.t -> A.t"},
		row{a + "open A.B val z = y", "A.x : int; A.B.y : int; z : int"}, row{a + "open A open B val z = y", "A.x : int; A.B.y : int; z : int"},
		// What is brought hides, and is hidden.
		row{"structure A = struct val x = 1 end val x = true open A val y = x val x = false val z = x", "A.x : int; x : bool; y : int; x : bool; z : bool"},
		row{"structure A = struct type t = bool structure C = struct val x = 1 end end type t = int structure C = struct val x = true end open A val y = (true : t) val z = C.x", "A.C.x : int; C.x : bool; y : bool; z : int"},
		row{"structure A = struct data t = C end fun f (exn : exn) = exn open A val x = C", "f : exn -> exn; x : A.t"},
		// In a structure it brings names of that structure, in their order.
		row{a + "structure D = struct val p = 1 open A val q = 2 end val z = D.C D.B.y", "A.x : int; A.B.y : int; D.p : int; D.x : int; D.B.y : int; D.q : int; z : A.t"},
		row{"structure A = struct val x = 1 val y = 2 end structure D = struct val y = true val z = 3 open A end", "A.x : int; A.y : int; D.z : int; D.x : int; D.y : int"},
		row{"structure A = struct val x = 1 val y = 2 end structure D = struct open A val x = true open A end", "A.x : int; A.y : int; D.x : int; D.y : int"},
		row{"structure A = struct val x = 1 val y = 2 end structure D = struct open A val x = true end", "A.x : int; A.y : int; D.y : int; D.x : bool"},
		// In a let it brings them to the end of the let: values, types and structures.
		row{a + "val z = let open A val C w = C B.y in (w : int) end val w = let open A in fn (u : t) => u end", "A.x : int; A.B.y : int; z : int; w : A.t -> A.t"},
		row{a + "val x = true type t = int structure B = struct val y = true end val z = let open A in (x, B.y, fn (u : t) => u) end val w = (x, B.y, (1 : t))",
			"A.x : int; A.B.y : int; x : bool; B.y : bool; z : int * int * (A.t -> A.t); w : bool * bool * int"},
		row{a + "val z = let open A exception E of int in try raise E 1 with E n => n end end", "A.x : int; A.B.y : int; z : int"},
		// What is general there is general here, and what is open is the same.
		row{"structure A = struct fun f x = x val r = ref [] end open A val x = (f 1, f true) val y = r := [1] val z = A.r", "A.f : 'a -> 'a; A.r : int list ref; x : int * bool; y : unit; z : int list ref"},
	)
	fails(t, api.ErrName,
		"?open A", "structure A = struct end ?open B", a+"?open B", a+"?open A.C", a+"?open A.B.A", a+"open A.B val z = ?x", "structure A = struct ?open A end", "signature A = sig end ?open A",
		a+"val z = let open A in x end val w = ?x", a+"val z = let open A in x end val w = (1 : ?t)", a+"val z = let open A in x end val w = ?B.y", a+"val z = let open A in x end val ?C w = 1",
		a+"fun f y = let open A in x end val w = ?C", a+"val z = let ?open B in 1 end", a+"structure D = struct open A end val z = ?x", "signature S = sig val x : int end structure A = struct val y = 1 val x = 2 end structure B : S = A open B val z = ?y",
	)
	fails(t, api.ErrType, "structure A = struct val r = ref [] end open A fun f x = r := [x] val x = (f 1, f ?true)", "structure A = struct val r = ref [] end fun f x = let open A in r := [x] end val x = (f 1, f ?true)")
}

func TestP5_1Signatures(t *testing.T) {
	goes(t,
		"signature S = sig end", "signature S = sig end signature T = S structure A : T = struct end", "signature S = sig val x : 'a -> ''b -> ('a * ''b) list end",
		"signature S = sig type t type 'a u type ('a, 'b) v = ('b * 'a u) list val x : (t, t) v end",
		"signature S = sig data 'a t = C of 'a u | D and 'a u = E of 'a t val x : int t end", "signature S = sig exception E exception F of int val x : exn end",
		"signature S = sig type t end signature T = sig structure A : S structure B : sig type t = A.t end val x : A.t * B.t end",
		// Names of the three sorts may be the same.
		"signature S = sig type x val x : x end signature T = sig structure A : S data t = A of int end", "signature S = sig exception T type t data u = A structure A : sig data t = A structure A : sig end end end",
		// The names ahead hide those around.
		"type t = int * int signature S = sig type 'a t val x : int t end", "structure A = struct type t = int end signature S = sig structure A : sig type u end val x : A.u end",
		"type ('a, 'b) t = 'a signature S = sig type t = (int, int) t val x : t list end",
	)
	fails(t, api.ErrName,
		"signature S = ?T", "signature S = ?S", "structure A : ?S = struct end", "structure A :> ?S = struct end", "structure S = struct end structure A : ?S = struct end", "signature S = sig structure A : ?T end", "structure A = struct structure B : ?T = struct end end",
		"signature S = sig val x : ?t end", "signature S = sig val x : ?t type t end", "signature S = sig val t : int val x : ?t end", "signature S = sig type t = ?u type u end", "signature S = sig type t = ?t end", "signature S = sig type t = ?'a end", "signature S = sig type 'a t = ?'b end",
		"signature S = sig exception E of ?'a end", "signature S = sig data t = C of ?'a end", "signature S = sig data t = C of ?u end", "signature S = sig structure A : sig type t end val x : ?t end", "signature S = sig structure A : sig end val x : ?A.t end", "signature S = sig val x : ?A.t structure A : sig type t end end",
		"signature S = sig type t end val x = (1 : ?t)", "signature S = sig type t end signature T = sig val x : ?t end", "signature S = sig type t end signature T = sig val x : ?S.t end", "signature S = sig structure A : sig type t end end val x = (1 : ?A.t)", "signature S = sig data t = C end val x = ?C", "signature S = sig val x : int end val y = ?x",
	)
	fails(t, api.ErrArity, "signature S = sig type 'a t val x : ?t end", "signature S = sig type t val x : ?int t end", "signature S = sig val x : ?list end", "signature S = sig data 'a t = C of ?t end", "signature S = sig structure A : sig type ('a, 'b) t end type u = ?int A.t end")
	fails(t, api.ErrTwice,
		"signature S = sig val x : int ?val x : int end", "signature S = sig type t ?type t end", "signature S = sig type t ?type 'a t = int end", "signature S = sig type t ?data t = C end", "signature S = sig type u data t = C ?data v = D and u = E end",
		"signature S = sig data t = C ?data u = D | C end", "signature S = sig exception C ?data u = C end", "signature S = sig data u = C ?exception C end", "signature S = sig exception C ?exception C of int end", "signature S = sig structure A : sig end ?structure A : sig end end",
		"signature S = sig val x : int val y : int val z : int ?val y : int val w : t end", "structure A : sig val x : int ?val x : int end = struct end", "signature S = sig structure A : sig type t ?type t end end",
		// In itself, as with the declaration.
		"signature S = sig type ('a, ?'a) t end", "signature S = sig type ('a, 'b, ?'a) t = int end", "signature S = sig data t = A | ?A end", "signature S = sig data t = A and ?t = B end", "signature S = sig data t = A and u = ?A end", "signature S = sig data ('a, ?'a) t = A end",
	)
	// Behind the specification, not ahead of it.
	fails(t, api.ErrName, "signature S = sig val x : int val x : ?t end", "signature S = sig type t type t = ?u end", "signature S = sig structure A : sig end structure A : ?T end", "signature S = sig exception E exception E of ?t end")
	fails(t, api.ErrTwice, "signature S = sig data t = C data u = C | ?C end", "signature S = sig val x : int ?val x : int val y : t end")
	fails(t, api.ErrBig, "type t = "+product(199)+" signature S = sig val x : ?t * t end", "signature S = sig type t type u = "+strings.Repeat("t * ", 199)+"t val x : ?u -> u end", "signature S = sig exception E of ?"+product(400)+" end")
	goes(t, "type t = "+product(198)+" signature S = sig val x : t * t end", "signature S = sig type t type u = "+strings.Repeat("t * ", 197)+"t val x : u -> u end", "signature S = sig exception E of "+product(399)+" end")
}

// product writes a product of so many ints.
func product(n int) string { return strings.Repeat("int * ", n-1) + "int" }

// A signature stands for itself with the names that were there, and its open types are others each time.
func TestP5_1Closed(t *testing.T) {
	tells(t,
		row{"type t = int signature S = sig val x : t end type t = bool structure A : S = struct val x = 1 end", "A.x : int"},
		row{"structure A = struct type t = int end signature S = sig val x : A.t end structure A = struct type t = bool end structure B : S = struct val x = 1 end", "B.x : int"},
		row{"signature T = sig val x : int end signature S = sig structure A : T end signature T = sig val x : bool end structure B : S = struct structure A = struct val x = 1 end end", "B.A.x : int"},
		row{"signature S = sig type t val x : t end structure A : S = struct type t = int val x = 1 end structure B : S = struct type t = bool val x = true end structure C :> S = A structure D :> S = A",
			"A.x : int; B.x : bool; C.x : C.t; D.x : D.t"},
		row{"signature S = sig type t val x : t end signature T = sig structure A : S structure B : S val y : A.t * B.t end structure M : T = struct structure A = struct type t = int val x = 1 end structure B = struct type t = bool val x = true end val y = (1, true) end structure N :> T = M",
			"M.A.x : int; M.B.x : bool; M.y : int * bool; N.A.x : N.A.t; N.B.x : N.B.t; N.y : N.A.t * N.B.t"},
		row{"signature S = sig data t = C end signature T = S structure A : S = struct data t = C end structure B : T = struct data t = C end val x = A.C = A.C andalso B.C = B.C", "x : bool"},
	)
	fails(t, api.ErrType,
		"signature S = sig type t val x : t end structure A :> S = struct type t = int val x = 1 end structure B :> S = A val y = [A.x, ?B.x]",
		"signature S = sig type t val x : t end signature T = sig structure A : S structure B : S end structure M :> T = struct structure A = struct type t = int val x = 1 end structure B = A end val y = [M.A.x, ?M.B.x]",
		"signature S = sig data t = C end structure A :> S = struct data t = C end structure B :> S = A val y = [A.C, ?B.C]",
	)
	fails(t, api.ErrOther,
		"signature S = sig type t end signature T = sig structure A : S structure B : S type u = A.t val x : B.t end ?structure M : T = struct structure A = struct type t = int end structure B = struct type t = bool end type u = int val x = 1 end",
		"type t = int signature S = sig val x : t end type t = bool ?structure A : S = struct val x = true end",
	)
}
