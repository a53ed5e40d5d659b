package infer

import (
	"fmt"
	"math/rand"
	"strings"
	"testing"

	"mlcore/api"
	"mlcore/syntax"
)

// list writes a text for each of some numbers, with a sign between.
func list(first, behind int, text, sign string) string {
	var l []string
	for i := first; i < behind; i++ {
		l = append(l, fmt.Sprintf(text, i))
	}
	return strings.Join(l, sign)
}

// values writes a val with names of such numbers.
func values(first, behind int) string {
	return " val (" + list(first, behind, "n%d", ",") + ") = raise Div "
}

func TestP5_1Names(t *testing.T) {
	most, more := values(0, api.MaxNames), values(0, api.MaxNames+1)
	cons := func(n int) string { return " data t = " + list(0, n, "C%d", "|") + " " }
	exceptions := func(n int) string { return list(0, n, "exception E%d", " ") + " " }
	goes(t,
		"structure A = struct "+most+" end", "structure A = struct "+most+most+"end", "structure A = struct"+values(0, 200)+values(100, 300)+"end", "structure A = struct"+cons(299)+"end", "structure A = struct"+cons(298)+"structure B = struct end end",
		"structure A = struct structure B = struct"+values(0, 200)+"end"+values(0, 99)+"end", "structure A = struct structure B = struct structure C = struct"+values(0, 298)+"end end end", "structure A = struct"+values(0, 99)+"structure B = struct"+values(0, 200)+"end structure B = struct"+values(0, 200)+"end end",
		"structure A = struct"+values(0, 200)+"end structure B = struct open A"+values(100, 300)+"open A end", "structure A = struct "+most+" end structure B = A open A open B", "structure A = struct "+list(0, 200, "type t%d=int", " ")+values(0, 100)+"end", "structure A = struct "+values(0, 100)+exceptions(200)+"end",
		"structure A : sig end = struct"+more+"end", "structure A :> sig val n7 : int end = struct"+more+"end", more,
		"signature S = sig "+list(0, 300, "type t%d", " ")+" end", "signature S = sig"+cons(299)+"end", "signature S = sig structure A : sig"+cons(298)+"end end",
		"signature S = sig "+list(0, 99, "val n%d:int", " ")+" end signature T = sig structure A : S structure B : S structure C : S end structure M : T = struct structure A = struct"+values(0, 99)+"end structure B = A structure C = A end",
	)
	fails(t, api.ErrBig,
		"?structure A = struct "+more+" end", "val x = 1 ?structure A = struct"+values(0, 200)+values(100, 301)+"end", "?structure A = struct"+cons(300)+"end", "?structure A = struct"+cons(299)+"structure B = struct end end",
		"?structure A = struct structure B = struct"+values(0, 200)+"end"+values(0, 100)+"end", "?structure A = struct structure B = struct structure C = struct"+values(0, 299)+"end end end", "structure A = struct ?structure B = struct structure C = struct"+values(0, 300)+"end end end",
		"structure A = struct ?structure B = struct"+more+"end end", "structure A = struct"+values(0, 200)+"end ?structure B = struct open A"+values(100, 301)+"end", "?structure A = struct "+list(0, 201, "type t%d=int", " ")+values(0, 100)+"end", "?structure A = struct "+values(0, 101)+exceptions(200)+"end",
		"structure A = struct"+values(0, 150)+"end ?structure B = struct structure C = A structure D = A end", "structure M : sig end = struct ?structure A = struct"+more+"end end",
		"signature S = ?sig "+list(0, 301, "type t%d", " ")+" end", "signature S = ?sig"+cons(300)+"end", "signature S = ?sig structure A : sig"+cons(299)+"end end", "signature S = sig structure A : ?sig"+cons(300)+"end end", "structure A : ?sig"+cons(300)+"end = struct val x = y end", "structure A :> ?sig"+cons(300)+"end = B",
		"signature S = sig "+list(0, 100, "val n%d:int", " ")+" end signature T = ?sig structure A : S structure B : S structure C : S end",
		// One after the other.
		"signature S0 = sig type t end "+series(6, "signature S%2 = sig structure A : S%1 structure B : S%1 end ")+"signature S7 = ?sig structure A : S6 structure B : S6 end",
		"structure A0 = struct val x = 1 end "+series(6, "structure A%2 = struct structure A = A%1 structure B = A%1 end ")+"?structure A7 = struct structure A = A6 structure B = A6 end structure B = A7",
		"structure A0 = struct val x = 1 end "+series(6, "structure A%2 = struct structure A = A%1 structure B = A%1 end ")+"?structure A7 = struct open A6 structure C = A6 end",
	)
	// When all else has gone well, and behind the last specification.
	fails(t, api.ErrName, "structure A = struct"+more+"val x = ?y end", "signature S = sig"+cons(300)+"val x : ?u end")
	fails(t, api.ErrTwice, "signature S = sig"+cons(300)+"val x : int ?val x : int end", "signature S = sig"+cons(300)+"?type t end")
	fails(t, api.ErrLess, "?structure A : sig val m : int end = struct"+more+"end")
}

// What an open type becomes may make others too great, some by far; one that is made by none of its row does not.
func TestP5_1Great(t *testing.T) {
	const two = "type 'a t = 'a * 'a "
	fails(t, api.ErrOther,
		"?structure A : sig type 'a t val x : int"+strings.Repeat(" t", 300)+" end = struct "+two+"fun x y = y val x = raise Div end", "?structure A :> sig type 'a t val x : 'b"+strings.Repeat(" t", 300)+" end = struct "+two+"val x = [] end", "?structure A : sig type 'a t val x : int"+strings.Repeat(" t", 8)+" end = struct "+two+"val x = raise Div end",
		"?structure A :> sig type 'a t type u = int"+strings.Repeat(" t", 300)+" end = struct "+two+"type u = int end", "?structure A : sig type 'a t data u = C of int"+strings.Repeat(" t", 300)+" end = struct "+two+"data u = C of int end", "?structure A : sig type 'a t exception E of int"+strings.Repeat(" t", 300)+" end = struct "+two+"exception E of int end",
		"?structure A : sig type t val x : "+strings.Repeat("t * ", 9)+"t end = struct type t = "+product(40)+" val x = raise Div end",
	)
	goes(t, "structure A : sig type t val x : "+strings.Repeat("t * ", 8)+"t end = struct type t = "+product(40)+" val x = raise Div fun x y = x y and z y = y fun f y = f y val x = let fun g y = g y in raise Div end end")
	tells(t,
		row{"structure A : sig type 'a t type 'a u val x : int" + strings.Repeat(" t", 100) + " u end = struct " + two + "type 'a u = int val x = 1 end", "A.x : int"}, row{"structure A : sig type 'a t val x : int" + strings.Repeat(" t", 399) + " end = struct type 'a t = 'a val x = 1 end", "A.x : int"},
		row{"structure A : sig type 'a t type ('a, 'b) u val f : 'b" + strings.Repeat(" t", 100) + " -> int val x : (int" + strings.Repeat(" t", 100) + ", int) u end = struct type 'a t = int type ('a, 'b) u = 'b val x = 1 fun f y = y end", "A.f : int -> int; A.x : int"},
	)
	// Constructors' types have their arguments in them.
	goes(t, "type g = "+product(399)+" structure A : sig type u data t = C of g | D of u end = struct type u = g data t = C of u | D of u end structure B :> sig type u data t = C of g | D of u end = A fun f x = case x of B.C _ => 1 | B.D (_ : B.u) => 2 end")
	// Typings: at the structure's declaration, in the order of the answer.
	fails(t, api.ErrBig,
		"?structure A = struct val r = ref [] val p = (r, r) end val x = A.r := ["+ones(197)+"]", "structure A = struct val r = ref [] end ?structure M = struct structure B = struct val p = (A.r, A.r) end end val x = A.r := ["+ones(197)+"]",
		"structure A = struct val r = ref [] end val ?p = (A.r, A.r) structure B = struct val p = (A.r, A.r) end val x = A.r := ["+ones(197)+"]", "structure A = struct val r = ref [] end ?structure B = struct val p = (A.r, A.r) end val p = (A.r, A.r) val x = A.r := ["+ones(197)+"]",
	)
	goes(t, "structure A = struct val r = ref [] val p = (r, r) end val x = A.r := ["+ones(196)+"]")
}

// Long programs are gone through at once, those with the most names and with great types too.
func TestP5_1Long(t *testing.T) {
	most := "structure A=struct" + values(0, 300) + "end "
	open := "fun f x=(ref[],ref[],ref[],ref[],ref[]) structure A=struct " + list(0, 100, "val n%d=f 1", " ") + " end "
	great := "type t type a=t*t*t*t type b=a*a*a*a type c=b*b*b*b type d=c*c*c*c*t*t "
	sigs := "signature S=sig " + great + list(0, 24, "val x%d:d", " ") + " end signature T=sig " + list(0, 9, "structure A%d:S", " ") + " end "
	inner := "structure X=struct " + strings.Replace(great, "type t", "type t=int", 1) + list(0, 24, "val x%d=raise Div", " ") + " end "
	all := sigs + inner + "structure B=struct " + list(0, 9, "structure A%d=X", " ") + " end structure A:T=B "
	for _, r := range []struct {
		front, part, end string
		most             int
	}{
		{most, "structure B=A ", "", 999}, {most, "open A ", "", 999}, {most + "structure B=struct ", "open A ", "end", 999}, {most + "val x=let ", "open A ", "in 1 end", 999},
		{"", "structure A=struct end ", "", 999}, {"structure A=struct end ", "structure A=struct structure A=A end ", "", 999}, {"signature A=sig end ", "signature A=A ", "", 999}, {"signature A=sig end ", "signature A=sig structure A:A end ", "", 999},
		{"", "structure A=struct ", strings.Repeat("end ", 59), 59}, {"signature S=", "sig structure A:", "sig end" + strings.Repeat(" end", 58), 58},
		{open, "structure B=A fun f x=x ", "", 999}, {open, "structure B=struct open A end fun g x=x ", "", 999},
		{sigs, "signature U=sig structure A:T end ", "", 999}, {all, "structure A:T=A ", "", 9}, {all, "structure A:>T=A ", "", 9}, {all, "open A ", "", 999}, {all, "open A.A1 ", "", 99},
	} {
		text := r.front + strings.Repeat(r.part, min(r.most, (api.MaxText-len(r.front)-len(r.end))/len(r.part))) + r.end
		if _, f := Infer(text); f.Kind != api.OK && f.Kind != api.ErrBig {
			t.Errorf("%.50s, %s: %v", r.front, r.part, f)
		}
	}
}

func TestP5_1Again(t *testing.T) { again(t, modulePrograms) }

func TestP5_1Changed(t *testing.T) { agreeChanged(t, 3000, modulePrograms) }

// Trees that were never read: any answer will do.
func TestP5_1OtherTrees(t *testing.T) {
	r := rand.New(rand.NewSource(6))
	for range 20000 {
		n, _ := syntax.Parse(modulePrograms[r.Intn(len(modulePrograms))].text)
		for range 1 + r.Intn(3) {
			spoil(r, &n)
		}
		Check(n)
	}
	for kind := -1; kind <= api.GStruct+1; kind++ {
		for _, name := range []string{"", "A", "A.A", "int", "'a", ".", "t"} {
			round := []api.Node{{}, {}, {}}
			for i := range round {
				round[i] = api.Node{Kind: kind, Name: name, N: i, Kids: round}
			}
			for top := api.DStruct; top <= api.GStruct; top++ {
				for n := -1; n < 4; n++ {
					one := api.Node{Kind: top, Name: name, N: n, Kids: round[:r.Intn(4)]}
					Check(api.Node{Kids: []api.Node{one, one}})
					Check(api.Node{Kids: []api.Node{{Kind: api.DSig, Name: "A", Kids: []api.Node{{Kind: api.GBody, Kids: []api.Node{one, one}}}}, {Kind: api.DStruct, Name: "A", N: 1, Kids: []api.Node{{Kind: api.GName, Name: "A"}, {Kind: api.SBody, Kids: []api.Node{one}}}}}})
				}
			}
		}
	}
}
