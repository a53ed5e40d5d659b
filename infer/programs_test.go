package infer

import "testing"

// programs have types; each declares all that it needs.
var programs = []row{
	{"fun map f l = case l of [] => [] | x :: r => f x :: map f r end", "map : ('a -> 'b) -> 'a list -> 'b list"},
	{"fun mem x l = case l of [] => false | y :: r => x = y orelse mem x r end", "mem : ''a -> ''a list -> bool"},
	{"val i = ref [] val j = (i := [1]; !i)", "i : int list ref; j : int list"},
	{"val i = ref [] val k = i", "i : unit list ref; k : unit list ref"},
	{"fun comp f g x = f (g x)", "comp : ('a -> 'b) -> ('c -> 'a) -> 'c -> 'b"},
	{"fun fact n = if n = 0 then 1 else n * fact (n - 1) val _ = print (str (fact 10))", "fact : int -> int"},
	{"data 'a tree = Leaf | Node of 'a tree * 'a * 'a tree fun size t = case t of Leaf => 0 | Node (l, _, r) => size l + 1 + size r end", "size : 'a tree -> int"},
	{"fun hd l = case l of x :: _ => x end", "hd : 'a list -> 'a"},
	{"exception Stop of int val n = try 1 + (raise Stop 4) with Stop k => k * 2 | Div => 0 end", "n : int"},
	{"val a = array (3, 0) val _ = put (a, 3, 1)", "a : int array"},
	{"fun f (x, y) = y :: x val s = f ([], \"a\") = f ([], \"a\")", "f : 'a list * 'a -> 'a list; s : bool"},
	{"fun loop n = loop (n + 1) val _ = loop 0", "loop : int -> 'a"},
	{"fun even n = n = 0 orelse odd (n - 1) and odd n = n <> 0 andalso even (n - 1)", "even : int -> bool; odd : int -> bool"},
	{"fun fold f a l = case l of [] => a | x :: r => fold f (f (x, a)) r end fun rev l = fold (fn (x, a) => x :: a) [] l", "fold : ('a * 'b -> 'b) -> 'b -> 'a list -> 'b; rev : 'a list -> 'a list"},
	{"fun assoc k l = case l of [] => raise Match | (j, v) :: r => if j = k then v else assoc k r end", "assoc : ''a -> (''a * 'b) list -> 'b"},
	{"type ('a, 'b) p = 'b * 'a fun f (x : (int, bool) p) = x", "f : bool * int -> bool * int"},
	{"fun f x = let val y = (x, x) fun g z = (y, z) in (g 1, g true) end", "f : 'a -> (('a * 'a) * int) * (('a * 'a) * bool)"},
	{"data 'a opt = None | Some of 'a fun get o = case o of Some x => x | None => raise Bounds end", "get : 'a opt -> 'a"},
	{"data e = Num of int | Add of e * e | Neg of e fun eval e = case e of Num n => n | Add (a, b) => eval a + eval b | Neg a => ~ (eval a) end", "eval : e -> int"},
	{"data 'a s = Nil | Cons of 'a * (unit -> 'a s) fun from n = Cons (n, fn () => from (n + 1)) fun take n s = case s of Cons (x, r) => if n = 0 then [] else x :: take (n - 1) (r ()) | Nil => [] end", "from : int -> int s; take : int -> 'a s -> 'a list"},
	{"val r = ref (fn x => x) val _ = r := (fn n => n + 1) val y = (!r) 3", "r : (int -> int) ref; y : int"},
	{"data 'a t = L of 'a | B of 'a u and 'a u = U of 'a t list fun f t = case t of L x => [x] | B (U l) => case l of [] => [] | x :: _ => f x end end", "f : 'a t -> 'a list"},
	{"fun swap (p as (x, y)) = if true then (y, x) else p", "swap : 'a * 'a -> 'a * 'a"},
	{"val (f, [g, _]) = (fn x => x, [size, fn s => 1]) val n = f (g (f \"a\"))", "f : 'a -> 'a; g : string -> int; n : int"},
	{"fun f a i = if i >= length a then [] else at (a, i) :: f a (i + 1)", "f : 'a array -> int -> 'a list"},
	{"fun tail s = part (s, 1, size s - 1) fun first s = chr (sub (s, 0)) ^ tail s", "tail : string -> string; first : string -> string"},
	{"fun tryit f x = try f x with Overflow => 0 | Size => 1 end", "tryit : ('a -> int) -> 'a -> int"},
	{"fun memo f = let val l = ref [] in fn x => (l := (x, f x) :: !l; case !l of (y, v) :: _ => if x = y then v else f x end) end", "memo : (''a -> 'b) -> ''a -> 'b"},
}

// The chapter's examples, the document's, and some of their kind.
func TestP4_1Programs(t *testing.T) { tells(t, programs...) }
