package infer

import (
	"math/rand"
	"reflect"
	"strconv"
	"strings"
	"testing"

	"mlcore/api"
	"mlcore/syntax"
)

func TestP4_1Answer(t *testing.T) {
	tells(t,
		row{"", ""}, row{"(* nothing *)", ""}, row{"type t = int data u = A exception E", ""}, row{"val _ = let val x = 1 fun f x = x in f x end", ""},
		row{"val x = 1 val x = true", "x : int; x : bool"}, row{"fun f x = x val f = 1", "f : 'a -> 'a; f : int"},
		row{"val (b, a) = (1, true) fun g x = a and f x = b", "b : int; a : bool; g : 'a -> bool; f : 'a -> int"},
		row{"val x = let val y = 1 in y end", "x : int"},
		// What is open is found by what comes later; if by nothing, it is unit.
		row{"val x = ref [] val y = ref x", "x : unit list ref; y : unit list ref ref"},
		row{"val x = ref [] val y = ref x val z = !y := [1]", "x : int list ref; y : int list ref ref; z : unit"},
		row{"val x = ref [] val x = 1 val y = x", "x : unit list ref; x : int; y : int"},
		row{"val x = ref (fn y => y = y)", "x : (unit -> bool) ref"},
		row{"val f = (fn x => x) (fn x => fn y => x)", "f : unit -> unit -> unit"},
		row{"fun id x = x val (f, g) = (id id, id id) val n = f 1", "id : 'a -> 'a; f : int -> int; g : unit -> unit; n : int"},
		// Variables are named anew for each.
		row{"fun f x y = x fun g x = f", "f : 'a -> 'b -> 'a; g : 'a -> 'b -> 'c -> 'b"},
		row{"fun f (x, y) = y = y", "f : 'a * ''b -> bool"},
	)
	fails(t, api.ErrType, "val x = 1 val y = true val z = x + ?y")
	fails(t, api.ErrSyntax, "val x = 1 ?)", "?1", "fun f x = x val y = f 1 val z ?: int = y")
	fails(t, api.ErrToken, "val x = ?#")
	if list, f := Infer(strings.Repeat(" ", api.MaxText+1)); list != nil || f.Kind != api.ErrLong {
		t.Error(list, f)
	}
}

func TestP4_1Big(t *testing.T) {
	most, more := ones(api.MaxType-1), ones(api.MaxType)
	half, three := ones(198), ones(199) // of 199 and 200 parts
	const both = "data 'a t = A of 'a * 'a fun id x = x "
	goes(t,
		"val x = "+most, "fun f x = "+ones(397), "fun f x = (x; 1) val y = f "+ones(397), "val (x, y) = ("+half+", "+half+")",
		both+"val y = A ("+half+", raise Div) val A x = y", both+"val y = A ("+three+", raise Div) val A _ = y",
		"val r = ref [] val p = (r, r) val x = r := ["+ones(196)+"]",
		"fun f x = x and g y = f "+half, "val x = case "+most+" of _ => 1 end", "val x = ("+more+"; 1)", "val x = let fun f () = "+ones(396)+" in f end",
	)
	fails(t, api.ErrBig,
		"val ?x = "+more, "val ?_ = "+more, "fun ?f x = "+ones(398), "fun f x = (x; 1) val y = f ?"+ones(398), "val ?(x, y) = ("+three+", "+three+")",
		"val ?x = ["+most+"]", "val x = [?"+more+"]", "val x = case "+more+" of ?_ => 1 end", "val x = 1 :: ?"+more+" val y = z", "val x = ?("+more+" : int)",
		"val x = if true then 1 else ?"+more, "val x = ?"+more+" + 1", "val x = raise ?"+more,
		// Names of one part of what is matched.
		both+"val y = A ("+three+", raise Div) val ?A x = y", "val ?x = ("+three+", "+three+")",
		// At the declaration, not only at the end of the program.
		both+"val y = A ("+three+", raise Div) val ?A x = y val z = w", both+"val y = let val z = A ("+three+", raise Div) val ?A x = z in 1 end",
		"fun ?f x = x and g y = f "+three+" val z = w", "val x = let fun ?f x = x and g y = f "+three+" in 1 end",
		// By what comes later in the same fun, or in the program.
		"fun ?f x = x and g y = f "+three, "fun g y = f "+three+" and ?f x = x", "fun ?f x = x and g x = x and h y = (f "+three+"; g "+three+"; 1)",
		"val r = ref [] val ?p = (r, r) val x = r := ["+ones(197)+"]",
		"val r = ref [] val ?p = (r, r) val q = (r, r) val p = r := ["+ones(197)+"]",
		"val r = ref [] val q = r val ?(x, y) = (r, (r, r)) val p = r := ["+ones(197)+"]",
	)
	if _, f := InferExp(most); f != (api.Fault{}) {
		t.Error(f)
	}
	failsExp(t, api.ErrBig, "?"+more, " ?["+most+"]", "(?fn x => "+ones(398)+")", "[?"+more+"]")
}

// Types that double again and again are refused before they are great, whatever they are made by.
func TestP4_1Doubling(t *testing.T) {
	for _, text := range []string{
		"fun d x = (x, x) val f = fn x => " + strings.Repeat("d (", 50) + "x" + strings.Repeat(")", 50),
		"fun f0 x = (x, x) " + series(40, "fun f%2 x = f%1 (f%1 x) "),
		"val f0 = fn x => (x, x) " + series(40, "val f%2 = fn x => f%1 (f%1 x) "),
		"fun f x0 = " + series(40, "case (x%1, x%1) of x%2 => ") + "x40" + strings.Repeat(" end", 40),
		"fun f x0 = let " + series(40, "val x%2 = (x%1, x%1) ") + "in x40 end",
		"fun f x0 = let " + series(40, "fun x%2 y = (x%1, x%1) ") + "in x40 end",
		"val x0 = ref [] " + series(40, "val x%2 = ref (x%1, x%1) "),
		"type 'a t0 = 'a * 'a " + series(40, "type 'a t%2 = 'a t%1 t%1 "),
		"data 'a t = A of 'a * 'a fun f0 x = A (x, x) " + series(40, "fun f%2 x = f%1 (f%1 x) "),
	} {
		if list, f := Infer(text); list != nil || f.Kind != api.ErrBig {
			t.Errorf("%.60s: %v", text, f)
		}
	}
}

// series writes a text so many times, with its number for %1 and the next one for %2.
func series(n int, text string) string {
	var l []string
	for i := range n {
		one := strings.ReplaceAll(text, "%1", strconv.Itoa(i))
		l = append(l, strings.ReplaceAll(one, "%2", strconv.Itoa(i+1)))
	}
	return strings.Join(l, "")
}

// Each of these makes a type of two of the one before, the last one first: while
// they are made the same none is great, but in the end they are so by far.
func TestP4_3Great(t *testing.T) {
	const most = 40
	text, list, params := "", "", ""
	for i := range most {
		text += " val r" + strconv.Itoa(i) + " = ref []"
		params += " x" + strconv.Itoa(i)
	}
	for i := most - 1; i > 0; i-- {
		one, two := strconv.Itoa(i-1), strconv.Itoa(i)
		text += " val _ = fn x => r" + two + " := [(!r" + one + ", !r" + one + ")] val f = fn x => x"
		list += "[x" + two + ", (x" + one + ", x" + one + ")]; "
	}
	fails(t, api.ErrBig,
		strings.Replace(text, "r7 ", "?r7 ", 1),
		"fun ?f"+params+" = ("+list+"let val g = fn y => y fun h z = (x1, z) in (g 1, g true, h 1) end)",
	)
}

// The longest programs of some kinds are gone through at once.
func TestP4_1Long(t *testing.T) {
	for _, r := range [][3]string{
		{"val x = 1", " + 1", ""}, {"fun f x = x val y = f", " f", ""}, {"val x = [1", ",1", "]"}, {"val x = (1", ";1", ")"},
		{"fun f a b c d e f g h i j k l m n o p q r s t u v w x y z = 0 val x = [f", ",f", "]"},
		{"val x = ref []", " val x = ref x", ""}, {"val x = fn x => x", " val x = fn y => x", ""}, {"fun f x = f x", " and g x = f x", ""}, {"data t = A", " data t = A of t", ""},
		{"exception A", " exception A of exn", ""}, {"val x = fn x => x", " x", ""}, {"val x = case 1 of 1 => 1", "|1=>1", " end"},
		{"val x = 1", "::[]", ""}, {"type t = int", " type t = t*t", ""},
	} {
		text := r[0] + strings.Repeat(r[1], (api.MaxText-len(r[0])-len(r[2]))/len(r[1])) + r[2]
		if _, f := Infer(text); f.Kind == api.ErrSyntax || f.Kind == api.ErrLong {
			t.Errorf("%.50s: %v", text, f)
		}
	}
}

func TestP4_1Again(t *testing.T) { again(t, programs) }

// again asks twice. What is answered hangs on the text alone, though names stand
// in maps; and the tree is only read.
func again(t *testing.T, list []row) {
	t.Helper()
	for _, p := range list {
		n, _ := syntax.Parse(p.text)
		before := syntax.Print(n)
		first, f := Check(n)
		for range 5 {
			again, g := Check(n)
			if f != g || !reflect.DeepEqual(first, again) {
				t.Errorf("%s: %s, %s", p.text, told(first), told(again))
			}
		}
		if kept, _ := syntax.Parse(p.text); syntax.Print(n) != before || !reflect.DeepEqual(n, kept) {
			t.Errorf("%s: the tree was changed", p.text)
		}
	}
}

// Trees that were never read: any answer will do.
func TestP4_1OtherTrees(t *testing.T) {
	r := rand.New(rand.NewSource(4))
	for range 10000 {
		Check(otherTree(r, 1+r.Intn(5)))
	}
	for kind := -1; kind <= api.GStruct+1; kind++ {
		for _, name := range []string{"", "x", "=", "::", "~", "!", "true", "'a", "list"} {
			round := []api.Node{{}, {}, {}}
			for i := range round {
				round[i] = api.Node{Kind: kind, Name: name, N: i, Kids: round}
			}
			for _, top := range []int{api.Prog, api.DVal, api.DFun, api.DType, api.DData, api.DExn} {
				Check(api.Node{Kids: []api.Node{{Kind: top, Kids: round}}})
				Check(api.Node{Kids: []api.Node{{Kind: top, Kids: round[:1]}}})
				Check(api.Node{Kids: []api.Node{{Kind: api.DVal, Kids: []api.Node{{Kind: api.PAny}, {Kind: kind, Name: name, Kids: round[:r.Intn(4)]}}}}})
			}
		}
	}
	for range 20000 {
		n, _ := syntax.Parse(programs[r.Intn(len(programs))].text)
		spoil(r, &n)
		Check(n)
	}
	if list, f := Check(api.Node{}); list != nil || f != (api.Fault{}) {
		t.Error(list, f)
	}
}

// spoil changes something somewhere in a tree.
func spoil(r *rand.Rand, n *api.Node) {
	for len(n.Kids) > 0 && r.Intn(8) > 0 {
		n = &n.Kids[r.Intn(len(n.Kids))]
	}
	other := otherTree(r, 2)
	switch r.Intn(6) {
	case 0:
		n.Kind = other.Kind
	case 1:
		n.Name = other.Name
	case 2:
		n.N = other.N
	case 3:
		n.Kids = n.Kids[:len(n.Kids)/2]
	case 4:
		n.Kids = append(n.Kids, n.Kids...)
	case 5:
		n.Kids = append(n.Kids, other)
	}
}

// otherTree is a random node, mostly of what may stand in another.
func otherTree(r *rand.Rand, depth int) api.Node {
	n := api.Node{
		Kind: r.Intn(api.GStruct+3) - 1, At: r.Intn(9), N: r.Intn(5) - 1,
		Name: []string{"x", "f", "::", "=", "+", "!", "true", "Div", "'a", "int", "list", "", "A.x"}[r.Intn(13)],
	}
	if depth == 5 {
		n.Kind = api.Prog
	}
	if depth == 4 {
		n.Kind = api.DVal + r.Intn(8)
	}
	if depth > 0 {
		for range r.Intn(4) {
			n.Kids = append(n.Kids, otherTree(r, depth-1))
		}
	}
	return n
}
