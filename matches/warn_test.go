package matches

import (
	"slices"
	"strconv"
	"strings"
	"testing"

	"mlcore/api"
	"mlcore/core"
)

// told writes a text's warnings: the kind of each, and its place.
func told(t *testing.T, text string) string {
	t.Helper()
	list, f := Warn(text)
	if f != (api.Fault{}) {
		t.Fatalf("%.300s: %v", text, f)
	}
	var l []string
	for _, w := range list {
		l = append(l, strconv.Itoa(w.Kind)+"@"+strconv.Itoa(w.At))
	}
	return strings.Join(l, " ")
}

// warns holds a text to its warnings. Marks say where these are: ¹ stands ahead of what
// has a warning of kind 1, ² of kind 2. They come in the order of the marks, or in that
// in which the marks are numbered.
func warns(t *testing.T, marked string, order ...int) {
	t.Helper()
	var text strings.Builder
	var places []string
	for _, c := range marked {
		switch c {
		case '¹':
			places = append(places, "1@"+strconv.Itoa(text.Len()))
		case '²':
			places = append(places, "2@"+strconv.Itoa(text.Len()))
		default:
			text.WriteRune(c)
		}
	}
	if order != nil {
		var sorted []string
		for _, i := range order {
			sorted = append(sorted, places[i])
		}
		places = sorted
	}
	if got, want := told(t, text.String()), strings.Join(places, " "); got != want {
		t.Errorf("%s: %s, want %s", text.String(), got, want)
	}
}

func TestP8_3Examples(t *testing.T) {
	warns(t, "fun f x = ¹case x of 1 => 2 | ²1 => 3 end")
	warns(t, "fun f l = case l of [] => 0 | x :: r => 1 end")
	warns(t, "fun ¹hd (x :: r) = x")
	warns(t, "fun hd l = ¹case l of x :: _ => x end")
	warns(t, "data 'a tree = Leaf | Node of 'a tree * 'a * 'a tree fun size t = case t of Leaf => 0 | Node (l, _, r) => size l + 1 + size r end")
	warns(t, "")
	warns(t, "val x = 1")
}

func TestP8_3Case(t *testing.T) {
	warns(t, "val x = ¹case 1 of 1 => 2 end")
	warns(t, "val x = case 1 of 1 => 2 | _ => 3 end")
	warns(t, "val x = case 1 of y => 2 | ²_ => 3 | ²1 => 4 end")
	warns(t, "val x = case true of true => 1 | false => 2 end")
	warns(t, "val x = ¹case true of true => 1 | ²true => 2 end")
	warns(t, "val x = case (true, false) of (true, _) => 1 | (_, true) => 2 | (false, false) => 3 | ²_ => 4 end")
	warns(t, "val x = ¹case (true, false) of (true, _) => 1 | (_, true) => 2 | ²(true, false) => 3 end")
	warns(t, `val x = ¹case "a" of "a" => 1 | "b" => 2 | ²"a" => 3 end`)
	warns(t, "val x = case () of () => 1 | ²() => 2 end")
	warns(t, "val x = case [1] of [] => 1 | [_] => 2 | _ :: _ :: _ => 3 end")
	warns(t, "val x = ¹case [1] of [] => 1 | [_] => 2 | [_, _] => 3 | ²[1] => 4 end")
	warns(t, "val x = ¹case [1] of _ :: 1 :: _ => 1 | ²(y as [2, 1]) => 2 | [1, y] => 3 | ²(1 : int) :: 1 :: z => 4 end")
	warns(t, "data t = A | B of int | C of t * t fun f x = case x of A => 1 | B _ => 2 | C _ => 3 end fun g x = ¹case x of A => 1 | C (A, y) => 2 | B 1 => 3 | ²C (A, A) => 4 end")
	warns(t, "data t = A fun f A = 1 data u = B of int fun g (B x) = x fun ¹h (B 1) = 2")
	// Exceptions are never all; those of other numbers are others.
	warns(t, "exception E exception F of int fun f e = ¹case e of E => 1 | F _ => 2 | Match => 3 | ²E => 4 | ²F 1 => 5 | Div => 6 end")
	warns(t, "exception E structure S = struct exception E end fun f e = ¹case e of E => 1 | S.E => 2 | ²S.E => 3 end")
	// What is compared is the pattern, wherever its constructor is called by its name.
	warns(t, "structure S = struct data t = A | B end fun f x = case x of S.A => 1 | S.B => 2 end open S fun g x = case x of A => 1 | S.B => 2 | ²B => 3 end")
}

func TestP8_3Functions(t *testing.T) {
	warns(t, "val f = fn x => x")
	warns(t, "val f = ¹fn 1 => 2")
	warns(t, "val f = fn (x, _) => x")
	warns(t, "val f = ¹fn [x] => x")
	warns(t, "val f = fn () => 1")
	// Each pattern of a fun is a match of its own, at the name.
	warns(t, "fun f x y = x")
	warns(t, "fun ¹¹f 1 x 2 = x")
	warns(t, "fun f x = 1 and ¹g true = 2 and h (x, y) = 3 and ¹k (1, y) = 4")
	warns(t, "data t = A of int | B val f = A val g = [A]")
}

func TestP8_3Val(t *testing.T) {
	warns(t, "val (x, y) = (1, 2)")
	warns(t, "¹val (1, x) = (1, 2)")
	warns(t, "¹val [x] = [1]")
	warns(t, "¹val (x as 1) = 1")
	warns(t, "val (x as (_ : int)) = 1")
	warns(t, "val _ = let ¹val true = true val y = 1 ¹val y :: _ = [y] in y end")
	warns(t, "structure S = struct ¹val 1 = 1 fun ¹f 1 = 1 end ¹val 2 = 2")
}

// A try has all cases.
func TestP8_3Try(t *testing.T) {
	warns(t, "val x = try 1 with Div => 2 end")
	warns(t, "val x = try 1 with Div => 2 | Match => 3 | ²Div => 4 end")
	warns(t, "val x = try 1 with Div => 2 | _ => 3 | ²Match => 4 | ²e => 5 end")
	warns(t, "exception E of int val x = try 1 with E 1 => 2 | ²E 1 => 3 | E _ => 4 | ²E 2 => 5 end")
}

// A term comes ahead of its kids, and these from the left; of one term kind 1 is first.
func TestP8_3Order(t *testing.T) {
	warns(t, "val x = ¹case (¹case 1 of 1 => 2 end) of 1 => (¹case 1 of 1 => 2 end) | ²1 => (¹case 1 of 1 => 2 | ²1 => 3 end) | ²1 => 5 end", 0, 3, 6, 1, 2, 4, 5)
	warns(t, "¹val 1 = ¹case 1 of 1 => 1 end ¹val 1 = 2")
	warns(t, "fun ¹f 1 = ¹case 1 of 1 => 1 | ²1 => 2 end and ¹g 1 = 1 ¹val 2 = 2")
	warns(t, "val x = try (¹fn 1 => 2) 1 with _ => (¹fn 1 => 2) 1 | ²_ => (¹fn 1 => 2) 1 end", 2, 0, 1, 3)
	// Within every term.
	warns(t, "val x = (¹fn 1 => 1, [¹fn 1 => 1, ¹fn 1 => 1], (¹fn 1 => 1) :: [])")
	warns(t, "val x = if (¹fn 1 => true) 1 then (¹fn 1 => 1) 1 else (¹fn 1 => 1) 1")
	warns(t, "val x = (¹fn 1 => true) 1 andalso (¹fn 1 => true) 1 orelse (¹fn 1 => true) 1")
	warns(t, "val x = ((¹fn 1 => 1) 1; (¹fn 1 => 1) 1; ~((¹fn 1 => 1) 1 + (¹fn 1 => 1) 1))")
	warns(t, "exception E of int data t = A of int val x = (raise E ((¹fn 1 => 1) 1); A ((¹fn 1 => 1) 1))")
	warns(t, "val x = let exception E fun f x = (¹fn 1 => 1) x in ((¹fn 1 => 1) (f 1) : int) end")
	warns(t, "val f = ¹fn 1 => ¹fn 2 => ¹fn 3 => 4")
}

// numbered is a case of so many numbers, and something in its last rule.
func numbered(count int, inner string) string {
	var l []string
	for i := range count {
		l = append(l, strconv.Itoa(i)+" => 1")
	}
	return "fun f x = case x of " + strings.Join(l, " | ") + inner + " end"
}

// Patterns of MaxMatch parts together are looked at, more are not; what stands within their terms is.
func TestP8_3Parts(t *testing.T) {
	whole := api.MaxMatch
	last := func(text string) string { return strconv.Itoa(strings.LastIndex(text, "|") + 2) }
	within := func(text string) string { return strconv.Itoa(strings.LastIndex(text, "fn")) }
	text := numbered(whole, "")
	if got := told(t, text); got != "1@10" {
		t.Errorf("%d parts: %s", whole, got)
	}
	if got := told(t, numbered(whole+1, "")); got != "" {
		t.Errorf("%d parts: %s", whole+1, got)
	}
	text = numbered(whole-1, " | 7 => (fn 1 => 2) 3")
	if got, want := told(t, text), "1@10 2@"+last(text)+" 1@"+within(text); got != want {
		t.Errorf("%d parts: %s, want %s", whole, got, want)
	}
	text = numbered(whole, " | 7 => (fn 1 => 2) 3")
	if got, want := told(t, text), "1@"+within(text); got != want {
		t.Errorf("%d parts: %s, want %s", whole+1, got, want)
	}
	// Lists have three parts for an element, and one for their end.
	ones := func(n int) string { return strings.Join(slices.Repeat([]string{"1"}, n), ",") }
	for n, want := range map[int]string{1: "1@4", 49: "1@4", 50: ""} {
		if got := told(t, "fun f["+ones(n)+"]=1"); got != want {
			t.Errorf("a list of %d: %s", n, got)
		}
	}
	// Names are parts, too.
	names := func(n int) string {
		var l []string
		for i := range n {
			l = append(l, "(a"+strconv.Itoa(i)+" as _)")
		}
		return strings.Join(l, ", ")
	}
	for n, want := range map[int]string{2: "1@4", 73: "1@4", 74: ""} {
		if got := told(t, "fun f ("+names(n)+", 1, 2, 3) = 1"); got != want {
			t.Errorf("a tuple of %d: %s", n, got)
		}
	}
}

// A text that is no program has the fault of Core, and no warnings.
func TestP8_3Faults(t *testing.T) {
	const ahead = "val f = fn 1 => 2 "
	for _, text := range []string{
		strings.Repeat(" ", api.MaxText+1), "val x = 1 \x01", "val x = \"", "val x =", "val x = " + strings.Repeat("(", 100) + "1" + strings.Repeat(")", 100), "val x = y", "fun f x x = 1", "data t = A fun f (A x) = 1", "val x = 1 + true", "val x = fn y => y y", "val x = (fn y => y) = (fn z => z)", "structure A : sig val x : int end = struct end", "structure A : sig val x : int end = struct val x = true end",
	} {
		for _, s := range []string{text, ahead + text} {
			_, want := core.Core(s)
			if list, f := Warn(s); len(list) > 0 || f != want || f.Kind == api.OK {
				t.Errorf("%.60s: %v %v, want %v", s, list, f, want)
			}
		}
	}
}

// The same text has the same warnings, whatever was done with those that were answered.
func TestP8_3Again(t *testing.T) {
	const text = "fun f x = case x of 1 => 2 | 1 => 3 end val [x] = [f 1]"
	first := told(t, text)
	for range 3 {
		list, _ := Warn(text)
		clear(list)
		told(t, "fun f 1 = 1")
		if got := told(t, text); got != first || got != "1@10 2@29 1@40" {
			t.Errorf("%s, then %s", first, got)
		}
	}
}

// written writes a pattern of constructors and tuples as a text does.
func written(p api.Pat) string {
	switch p.Kind {
	case api.PtCon:
		return string(rune('A'+p.Of)) + strconv.Itoa(p.N)
	case api.PtTuple:
		var l []string
		for _, k := range p.Kids {
			l = append(l, written(k))
		}
		return "(" + strings.Join(l, ",") + ")"
	}
	return "_"
}

// Texts as long and as deep as they may be, and with matches as great as they may be, have warnings.
func TestP1Texts(t *testing.T) {
	fill := func(front, part, back string) string {
		return front + strings.Repeat(part, (api.MaxText-len(front)-len(back))/len(part)) + back
	}
	rules := ""
	for i, row := range product([]int{3, 3, 3}, []int{3, 3}, []int{3, 3}) {
		if i > 0 {
			rules += "|"
		}
		rules += written(tuple(row...)) + "=>1"
	}
	great := fill("data b=C0|C1 data t=D0|D1|D2 ", "fun f x=case x of "+rules+" end ", "")
	if got := told(t, great); strings.Count(great, "case") < 4 || strings.Contains(got, "1@") || !strings.Contains(got, "2@") {
		t.Errorf("%s: %s", great, got)
	}
	for _, r := range []struct {
		text  string
		count int
	}{
		{fill("", "val 1=1 ", ""), 500}, {fill("", "fun f 1=1 ", ""), 400}, {fill("fun f x=case x of 1=>1", "|1=>1", " end"), 0}, {fill("val x=let ", "val 1=1 ", "in 1 end"), 497},
		{"val x = " + strings.Repeat("let val 1 = 1 in ", 57) + "1" + strings.Repeat(" end", 57), 57}, {"val x = " + strings.Repeat("case 1 of 1 => ", 57) + "1" + strings.Repeat(" end", 57), 57}, {"fun f" + strings.Repeat(" 1", 199) + " = 1", 199},
	} {
		if list, f := Warn(r.text); f != (api.Fault{}) || len(list) != r.count {
			t.Errorf("%.60s: %d %v, want %d", r.text, len(list), f, r.count)
		}
	}
}
