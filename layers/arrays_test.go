package layers

import (
	"math/rand"
	"strconv"
	"strings"
	"testing"

	"mlcore/api"
	"mlcore/meaning"
)

func commas(part string, n int) string { return strings.TrimSuffix(strings.Repeat(part+",", n), ",") }

// asMany is a program that holds lists of so many parts, or half of that, and so on, as many lists as P15.6 speaks of; it
// tells how many parts that are.
func asMany(t *testing.T, ahead, part string, each int) (text string, parts int) {
	t.Helper()
	for lists := 1; lists <= 40; lists++ {
		next := ahead + "fun b()=[" + commas(part, each) + "]val l=[" + commas("b()", lists) + "]"
		o, f := meaning.Run(next, api.MaxFuel)
		if f != (api.Fault{}) || o.Kind == api.Going {
			t.Fatalf("%s: %v %v", next, o, f)
		}
		if bound(next, o.Steps) > api.MaxFuel {
			break
		}
		text, parts = next, lists*each
	}
	if text == "" {
		return asMany(t, ahead, part, each/2)
	}
	return text, parts
}

// makers is the ways to make an array of N cells that hold V: by array itself and by a name for it, of a tuple and of a
// name for one.
func makers() [][2]string {
	return [][2]string{{"", "array(N,V)"}, {"val a=array ", "a(N,V)"}, {"val p=(N,V)", "array p"}, {"val a=array val p=(N,V)", "a p"}}
}

// users is what is done with an array that is then held: M makes it, I is its last cell.
func users() [][2]string {
	return [][2]string{
		{"", "M"}, {"fun u x=(at(x,I);x)", "u(M)"}, {"val g=at fun u x=(g(x,0);x)", "u(M)"}, {"fun u x=(put(x,I,V);x)", "u(M)"}, {"val w=put fun u x=(w(x,0,V);x)", "u(M)"}, {"fun u t=(put t;t)", "u(M,I,V)"}, {"fun u x=(x=x;x)", "u(M)"}, {"", "(M=M,M<>M,M)"}, {"fun u x=(length x;x)", "u(M)"}, {"val n=length fun u x=(x,n x)", "u(M)"},
		// What is refused is handled, and the array is held all the same.
		{"fun u x=try(at(x,N);x)with Bounds=>x end ", "u(M)"}, {"fun u x=try(put(x,N,V);x)with Bounds=>x end ", "u(M)"}, {"fun u x=try(put(x,~1,V);x)with Bounds=>x end ", "u(M)"}, {"val d=array(100,V)fun u f=try f()with Size=>d end ", "u(fn()=>M)"},
	}
}

// sized writes how many cells there are, and the last one's number, into a text.
func sized(text string, cells int, value string) string {
	number := func(n int) string { return strings.Replace(strconv.Itoa(n), "-", "~", 1) }
	return strings.NewReplacer("N", number(cells), "I", number(max(cells-1, 0)), "V", value).Replace(text)
}

// Programs that hold many arrays have room for them, however these are made, and whatever is done with them.
func TestP15_6Arrays(t *testing.T) {
	t.Parallel()
	most := 0
	for _, cells := range []int{0, 1, 2, 84, 99, api.MaxArray, api.MaxArray + 1, api.MaxInt, -1, -api.MaxInt} {
		for _, m := range makers() {
			for _, u := range users() {
				for _, each := range []int{1, 7, 20} {
					ahead, part := m[0]+u[0], strings.ReplaceAll(u[1], "M", m[1])
					text, parts := asMany(t, sized(ahead, cells, "0"), sized(part, cells, "0"), each)
					if endsSo(t, text) == 0 {
						t.Errorf("%s: is not spoken of", text)
					}
					most = max(most, parts)
				}
			}
		}
	}
	// There are many arrays indeed.
	if most < 200 {
		t.Error(most)
	}
}

// Likewise arrays that hold something, and arrays in arrays.
func TestP15_6ArraysOf(t *testing.T) {
	t.Parallel()
	for _, value := range []string{`"ab"`, "(1,2)", "[1,2]", "fn x=>x", "ref 1", "array(100,0)", "Div", "print"} {
		for _, m := range makers() {
			for _, u := range users()[:6] {
				for _, cells := range []int{1, api.MaxArray} {
					ahead, part := m[0]+u[0], strings.ReplaceAll(u[1], "M", m[1])
					text, _ := asMany(t, "val v="+value+" "+sized(ahead, cells, "v"), sized(part, cells, "v"), 5)
					if endsSo(t, text) == 0 {
						t.Errorf("%s: is not spoken of", text)
					}
				}
			}
		}
	}
}

// What arrays do, whether something was put into them or not.
func TestP15_5Arrays(t *testing.T) {
	const say = `fun say n = print (str n ^ " ") fun same b = print (if b then "= " else "# ") `
	const all = `fun each f (a, i) = if i = length a then () else (f (at (a, i)); each f (a, i + 1)) `
	for _, r := range [][3]string{
		{"val a = array (3, 7) val _ = (say (at (a, 0)); say (at (a, 2)); say (length a))", "Done", "7 7 3 "},
		{"val a = array (3, 7) val _ = put (a, 1, 8) val _ = each say (a, 0) val _ = say (length a)", "Done", "7 8 7 3 "},
		{"val a = array (3, 7) val _ = (put (a, 0, 1); put (a, 2, 3); put (a, 0, 4)) val _ = each say (a, 0)", "Done", "4 7 3 "},
		{"val a = array (1, 7) val _ = put (a, 0, 8) val _ = each say (a, 0)", "Done", "8 "},
		{"val a = array (100, 7) val _ = put (a, 99, 8) val _ = (say (at (a, 98)); say (at (a, 99)); say (length a))", "Done", "7 8 100 "},
		{"val a = array (0, 7) val _ = say (length a) val _ = at (a, 0)", "Bounds", "0 "}, {"val a = array (0, 7) val _ = put (a, 0, 1)", "Bounds", ""},
		// The first number below and above those of the cells, whether something was put or not.
		{"val _ = at (array (3, 7), 3)", "Bounds", ""}, {"val _ = at (array (3, 7), ~1)", "Bounds", ""}, {"val _ = at (array (100, 7), 100)", "Bounds", ""}, {"val _ = put (array (3, 7), 3, 1)", "Bounds", ""}, {"val _ = put (array (3, 7), ~1, 1)", "Bounds", ""},
		{"val a = array (3, 7) val _ = put (a, 2, 1) val _ = at (a, 3)", "Bounds", ""}, {"val a = array (3, 7) val _ = put (a, 2, 1) val _ = at (a, ~1)", "Bounds", ""}, {"val a = array (3, 7) val _ = put (a, 2, 1) val _ = put (a, 3, 1)", "Bounds", ""}, {"val a = array (3, 7) val _ = put (a, 2, 1) val _ = put (a, ~1, 1)", "Bounds", ""},
		{"val a = array (3, 7) val _ = try put (a, 3, 1) with Bounds => () end val _ = each say (a, 0)", "Done", "7 7 7 "},
		{"val _ = array (101, 7)", "Size", ""}, {"val _ = array (~1, 7)", "Size", ""}, {"val _ = array (1000000000, 7)", "Size", ""}, {"val _ = array (~1000000000, 7)", "Size", ""}, {"val p = (101, 7) val f = array val _ = try (f p; ()) with Size => print \"s\" end", "Done", "s"},
		// Each array is one of its own, though it was made of the same tuple; its names are names of one.
		{"val p = (2, 7) val a = array p val b = array p val c = a val _ = (same (a = b); same (a = c); same (a <> b); same (a <> c)) val _ = put (a, 0, 1) val _ = (same (a = b); same (a = c)) val _ = (each say (a, 0); each say (b, 0); each say (c, 0))", "Done", "# = = # # = 1 7 7 7 1 7 "},
		{"val p = (2, 7) val a = array p val b = array p val _ = put (b, 1, 9) val (n, v) = p val _ = (say n; say v; each say (a, 0); each say (b, 0))", "Done", "2 7 7 7 7 9 "},
		{"val a = array (0, 7) val b = array (0, 7) val _ = (same (a = a); same (a = b); same ([a, b] = [a, b]); same ((a, b) = (b, a)))", "Done", "= # = # "},
		// Arrays hold what they are given, arrays and tuples, too.
		{"val a = array (2, (3, 4)) val (x, y) = at (a, 1) val _ = (say x; say y; put (a, 0, (5, 6))) val (x, y) = at (a, 0) val _ = (say x; say y)", "Done", "3 4 5 6 "},
		{"val b = array (2, 7) val a = array (3, b) val _ = put (at (a, 1), 1, 8) val _ = each (fn c => each say (c, 0)) (a, 0) val _ = put (a, 2, array (1, 9)) val _ = each (fn c => each say (c, 0)) (a, 0) val _ = (same (at (a, 0) = b); same (at (a, 2) = b))", "Done", "7 8 7 8 7 8 7 8 7 8 9 = # "},
		{"val a = array (2, array (2, (1, 2))) val _ = say (length (at (a, 0)))", "Done", "2 "}, {"val a = array (2, fn x => x + 1) val _ = put (a, 1, fn x => x * 5) val _ = (say (at (a, 0) 6); say (at (a, 1) 6))", "Done", "7 30 "},
		{"val r = ref 1 val a = array (2, r) val _ = at (a, 0) := 5 val _ = (say (! (at (a, 1))); same (at (a, 0) = r)) val _ = put (a, 0, ref 5) val _ = (same (at (a, 0) = r); same (at (a, 1) = r))", "Done", "5 = # = "},
		{"exception E of int array val a = array (2, 7) val _ = try (put (a, 0, 1); raise E a) with E b => (put (b, 1, 2); same (a = b)) end val _ = each say (a, 0)", "Done", "= 1 2 "},
		// The functions are values.
		{"val (m, n, g, w) = (array, length, at, put) val a = m (2, 7) val _ = w (a, 1, 8) val _ = (say (n a); say (g (a, 0)); say (g (a, 1)))", "Done", "2 7 8 "},
		{"val t = (array (2, 7), 1, 8) val _ = (put t; put t) val (a, _, _) = t val _ = each say (a, 0)", "Done", "7 8 "}, {"fun twice f x = (f x; f x) val p = (1, 7) val _ = same (twice array p = twice array p)", "Done", "# "},
		{"structure A :> sig type t val make : int * int -> t val get : t * int -> int end = struct type t = int array val make = array val get = at end val _ = say (A.get (A.make (2, 7), 1))", "Done", "7 "},
		{"fun f n = if n = 0 then at (array (2, 7), 1) else f (n - 1) val _ = say (f 9)", "Done", "7 "}, {"fun at x = 1 fun put x = 2 val array = 3 val _ = (say (at 0); say (put 0); say array)", "Done", "1 2 3 "},
	} {
		text := say + all + r[0]
		_, bytes := codeOf(t, text)
		o := played(t, text, bytes, 2000, 20000)
		means(t, text, o)
		if ending(o) != r[1] || o.Out != r[2] {
			t.Errorf("%s: %v, want %s %q", r[0], o, r[1], r[2])
		}
	}
}

// arrayWork writes programs that do much with a few arrays, some of them the same.
type arrayWork struct {
	*rand.Rand
	names []string
}

func (w *arrayWork) pick(l ...string) string { return l[w.Intn(len(l))] }
func (w *arrayWork) array() string           { return w.pick(w.names...) }

// index is a number that is one of a cell, or nearly.
func (w *arrayWork) index() string {
	a := w.array()
	return w.pick("0", "1", strconv.Itoa(w.Intn(100)), "length "+a+" - 1", "length "+a, "~1", "at ("+a+", 0)")
}

func (w *arrayWork) value() string {
	return w.pick(strconv.Itoa(w.Intn(1000)), "length "+w.array(), "at ("+w.array()+", "+w.index()+")")
}

// fresh makes an array, or tells one that is there.
func (w *arrayWork) fresh() string {
	n := w.pick("0", "1", "2", "3", "99", "100", "101", "~1", strconv.Itoa(w.Intn(101)), w.value())
	return w.pick("array ("+n+", "+w.value()+")", "make ("+n+", "+w.value()+")", "let val p = ("+n+", "+w.value()+") in array p end", "make p", "make q", w.array(), "at (m, "+w.pick("0", "1", "2", "3")+")")
}

func (w *arrayWork) action() string {
	a := w.array()
	return w.pick(
		"say (at ("+a+", "+w.index()+"))", "say (read ("+a+", "+w.index()+"))", "say (length "+a+")", `print (if `+a+" = "+w.array()+` then "=" else "#")`, `print (if [`+a+", "+a+"] <> ["+w.array()+", "+w.array()+`] then "#" else "=")`,
		"put ("+a+", "+w.index()+", "+w.value()+")", "put ("+a+", "+w.index()+", "+w.value()+")", "write ("+a+", "+w.index()+", "+w.value()+")", "let val t = ("+a+", "+w.index()+", "+w.value()+") in (put t; write t) end", "fill ("+a+", 0)", "say (total ("+a+", 0))",
		"put (m, "+w.pick("0", "1", "2", "3")+", "+w.fresh()+")", "put (at (m, "+w.pick("0", "1", "2")+"), "+w.index()+", "+w.value()+")",
	)
}

// arrayHelpers is what these programs declare, if they ask for it.
func arrayHelpers() [][2]string {
	return [][2]string{
		{"make", "val make = array "}, {"read", "val read = at "}, {"write", "val write = put "}, {"make p", "val p = (100, 5) "}, {"make q", "val q = (4, 6) "}, {"(m, ", "val m = array (3, z) "}, {"say", `fun say n = print (str n ^ " ") `},
		{"fill", "fun fill (a, i) = if i = length a then () else (put (a, i, i * 3); fill (a, i + 7)) "}, {"total", "fun total (a, i) = if i >= length a then 0 else at (a, i) + total (a, i + 1) "},
	}
}

// arrayText is a random program of arrays, that of a seed.
func arrayText(seed int) string {
	w := &arrayWork{Rand: rand.New(rand.NewSource(int64(seed))), names: []string{"z"}}
	body, text := "", "val z = array (100, 4) "
	for range 1 + w.Intn(20) {
		if w.Intn(3) == 0 {
			name, other := w.pick("a", "b", "c", "d"), w.array()
			body += "val " + name + " = try " + w.fresh() + ` with Size => (print "s"; ` + other + ") | Bounds => " + other + " end "
			w.names = append(w.names, name)
			continue
		}
		body += "val _ = try " + w.action() + ` with Bounds => print "b" | Size => print "s" end `
	}
	for _, h := range arrayHelpers() {
		if strings.Contains(body, h[0]) {
			text += h[1]
		}
	}
	return text + body
}

// Random programs of arrays do what they mean, on any heap, and greater heaps do not change it.
func TestP15_5RandomArrays(t *testing.T) {
	t.Parallel()
	done, told := 0, map[string]int{}
	for seed := range 600 {
		text := arrayText(seed)
		_, bytes := codeOf(t, text)
		r := rand.New(rand.NewSource(int64(seed)))
		for _, cells := range []int{api.MaxHeap, r.Intn(100), r.Intn(400), r.Intn(1000)} {
			o := played(t, text, bytes, cells, 20000)
			means(t, text, o)
			told[ending(o)]++
			for _, sign := range []string{"b", "s", "=", "#"} {
				told[sign] += strings.Count(o.Out, sign)
			}
		}
		growing(t, text, []int{0, r.Intn(50), r.Intn(200), r.Intn(500), r.Intn(1000), 3000, api.MaxHeap}, 10000)
		if endsSo(t, text) > 0 {
			done++
		}
	}
	for _, word := range []string{"Done", "Memory", "b", "s", "=", "#"} {
		if told[word] < 100 {
			t.Error(word, told)
		}
	}
	if done < 100 {
		t.Error(done)
	}
}
