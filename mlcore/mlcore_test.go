package mlcore

import (
	"reflect"
	"strings"
	"testing"

	"mlcore/api"
	"mlcore/code"
	"mlcore/emit"
	"mlcore/infer"
	"mlcore/machine"
	"mlcore/matches"
)

// programs is some that have types.
func programs() []string {
	return []string{
		"", "val x = 1", `val _ = print "hi"`, "fun f x = f x val _ = f 1", "val x = 1 / 0", "fun f 1 = 2", "fun f x = case x of 1 => 2 | 1 => 3 end val y = f 1", "fun fact n = if n = 0 then 1 else n * fact (n - 1) val _ = print (str (fact 10))", "exception E of int val _ = raise E 1",
		"structure S :> sig type t val make : int -> t val get : t -> int end = struct type t = int fun make n = n + 1 fun get n = n end val x = S.get (S.make 1)", "fun hd l = case l of x :: _ => x end val _ = hd [1] val _ = (print \"a\"; hd [])", "val a = array (100, [1, 2, 3]) val b = ref a",
	}
}

// others is texts that have none, with every fault that there is, but that of their lengths.
func others() []string {
	return []string{
		strings.Repeat(" ", api.MaxText+1), "val x = 1 \x01", "val x = \"", "val", "val x = " + strings.Repeat("(", 100) + "1" + strings.Repeat(")", 100), "val x = y", "fun f x x = 1", "data t = A fun f (A x) = 1", "val x = 1 + true", "val x = fn y => y y", "val x = (fn y => y) = (fn z => z)",
		"fun p x = (x, x) val x = fn y => p (p (p (p (p (p (p (p (p y))))))))", "structure A : sig val x : int end = struct end", "structure A : sig val x : int end = struct val x = true end",
	}
}

// Compile is Encode of Emit.
func TestP15_1Compile(t *testing.T) {
	for _, text := range programs() {
		c, _ := emit.Emit(text)
		want, e := code.Encode(c)
		if s, f := Compile(text); s != want || f != (api.Fault{}) || e != api.OK || !strings.HasPrefix(s, "ML1") {
			t.Errorf("%s: %q %v, want %q %v", text, s, f, want, e)
		}
	}
	kinds := map[api.Errno]bool{}
	for _, text := range others() {
		_, want := emit.Emit(text)
		if s, f := Compile(text); s != "" || f != want || f.Kind == api.OK {
			t.Errorf("%.60s: %q %v, want %v", text, s, f, want)
		}
		kinds[want.Kind] = true
	}
	for kind := api.ErrLong; kind <= api.ErrOther; kind++ {
		if !kinds[kind] {
			t.Errorf("no text with the fault %d", kind)
		}
	}
}

// Run is Play of what Compile gives.
func TestP15_2Run(t *testing.T) {
	for _, text := range programs() {
		s, _ := Compile(text)
		for _, cells := range []int{0, 3, 5, 50, 500, api.MaxHeap} {
			for _, fuel := range []int{-1, 0, 1, 7, 1000, api.MaxFuel, api.MaxFuel + 1} {
				want, _ := machine.Play(s, cells, fuel)
				if o, f := Run(text, cells, fuel); o != want || f != (api.Fault{}) {
					t.Errorf("%s, %d cells, %d instructions: %v %v, want %v", text, cells, fuel, o, f, want)
				}
			}
		}
	}
}

// A fault of the text is told ahead of one of the heap; with each there is no outcome.
func TestP15_2Faults(t *testing.T) {
	for _, cells := range []int{-api.MaxHeap, -1, 0, 100, api.MaxHeap + 1} {
		for _, text := range others() {
			_, want := Compile(text)
			if o, f := Run(text, cells, 100); o != (api.Outcome{}) || f != want {
				t.Errorf("%.60s, %d cells: %v %v, want %v", text, cells, o, f, want)
			}
		}
		if cells >= 0 && cells <= api.MaxHeap {
			continue
		}
		for _, text := range programs() {
			if o, f := Run(text, cells, 100); o != (api.Outcome{}) || f != (api.Fault{Kind: api.ErrArg}) {
				t.Errorf("%s, %d cells: %v %v", text, cells, o, f)
			}
		}
	}
}

// Report is Infer's typings and Warn's warnings.
func TestP15_3Report(t *testing.T) {
	told := 0
	for _, text := range programs() {
		typings, _ := infer.Infer(text)
		warnings, _ := matches.Warn(text)
		l, w, f := Report(text)
		if !reflect.DeepEqual(l, typings) || !reflect.DeepEqual(w, warnings) || f != (api.Fault{}) {
			t.Errorf("%s: %v %v %v, want %v %v", text, l, w, f, typings, warnings)
		}
		told += len(l) * len(w)
	}
	if told < 5 {
		t.Error(told)
	}
	for _, text := range others() {
		_, want := infer.Infer(text)
		if l, w, f := Report(text); len(l)+len(w) > 0 || f != want {
			t.Errorf("%.60s: %v %v %v, want %v", text, l, w, f, want)
		}
	}
	// A program with warnings ahead of what has no type has none.
	if l, w, f := Report("fun f 1 = 2 val x = 1 + true"); len(l)+len(w) > 0 || f != (api.Fault{Kind: api.ErrType, At: 24}) {
		t.Errorf("%v %v %v", l, w, f)
	}
}

// The examples of the document.
func TestP15_3Examples(t *testing.T) {
	for _, r := range []struct {
		text, typings string
		warnings      []api.Warning
	}{
		{"fun comp f g x = f (g x)", "comp : ('a -> 'b) -> ('c -> 'a) -> 'c -> 'b", nil},
		{"data 'a tree = Leaf | Node of 'a tree * 'a * 'a tree fun size t = case t of Leaf => 0 | Node (l, _, r) => size l + 1 + size r end", "size : 'a tree -> int", nil},
		{"fun hd l = case l of x :: _ => x end", "hd : 'a list -> 'a", []api.Warning{{At: 11, Kind: 1}}},
		{"exception Stop of int val n = try 1 + (raise Stop 4) with Stop k => k * 2 | Div => 0 end", "n : int", nil},
		{"fun f (x, y) = y :: x val s = f ([], \"a\") = f ([], \"a\")", "f : 'a list * 'a -> 'a list, s : bool", nil},
	} {
		l, w, f := Report(r.text)
		var all []string
		for _, x := range l {
			all = append(all, x.Name+" : "+x.Type)
		}
		if got := strings.Join(all, ", "); got != r.typings || !reflect.DeepEqual(append([]api.Warning(nil), w...), r.warnings) || f != (api.Fault{}) {
			t.Errorf("%s: %s %v %v", r.text, got, w, f)
		}
	}
}
