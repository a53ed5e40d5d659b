package layers

import (
	"math/rand"
	"slices"
	"strconv"
	"strings"
	"testing"

	"mlcore/api"
	"mlcore/infer"
	"mlcore/machine"
	"mlcore/meaning"
	"mlcore/mlcore"
	"mlcore/syntax"
)

// played is what a code does, which is never Wrong.
func played(t *testing.T, text, bytes string, cells, fuel int) api.Outcome {
	t.Helper()
	o, f := machine.Play(bytes, cells, fuel)
	if f != (api.Fault{}) || o.Kind == api.Wrong {
		t.Fatalf("%s, %d cells, %d instructions: %v %v", text, cells, fuel, o, f)
	}
	return o
}

// means holds what a machine did to what the text means.
func means(t *testing.T, text string, o api.Outcome) {
	t.Helper()
	most := min(bound(text, o.Steps), api.MaxFuel)
	for _, steps := range []int{min(most, 10*o.Steps+100), most} {
		of, f := meaning.Run(text, steps)
		if f != (api.Fault{}) {
			t.Fatalf("%s: %v", text, f)
		}
		if o.Kind == api.Done || o.Kind == api.Raised {
			if of.Kind == o.Kind && of.Name == o.Name && of.Out == o.Out {
				return
			}
		} else if strings.HasPrefix(of.Out, o.Out) {
			return
		}
		// Where that is more than MaxFuel steps, it cannot be asked for.
		if of.Kind != api.Going || steps == bound(text, o.Steps) {
			t.Fatalf("%s: is %v, on the machine %v", text, of, o)
		}
	}
}

// Random programs do what they mean, on any heap, and are never Wrong.
func TestP15_5Random(t *testing.T) {
	t.Parallel()
	ends := map[string]int{}
	for seed := range 1500 {
		_, text, _, ok := random(seed)
		if !ok {
			continue
		}
		_, bytes := codeOf(t, text)
		r := rand.New(rand.NewSource(int64(seed)))
		for _, cells := range []int{api.MaxHeap, r.Intn(20), r.Intn(100), r.Intn(500)} {
			o := played(t, text, bytes, cells, 10+r.Intn(5000))
			means(t, text, o)
			ends[ending(o)]++
		}
	}
	comesTo(t, ends)
	if ends["Memory"] < 100 {
		t.Error(ends)
	}
}

// endless is programs that go on, and do much of what there is to do.
func endless() []string {
	return []string{
		"fun loop n = loop (n + 1) val _ = loop 0",
		"fun up n = if n = 0 then [] else n :: up (n - 1) fun map f l = case l of [] => [] | x :: r => f x :: map f r end fun loop l = loop (map (fn x => if x = 1 then 0 else x + 1) (map (fn x => x % 7) (up 9))) val _ = loop []",
		"data t = L | N of t * int * t fun put x t = case t of L => N (L, x, L) | N (l, y, r) => if x < y then N (put x l, y, r) else if x > y then N (l, y, put x r) else t end fun loop (n, t) = loop ((n * 7 + 3) % 31, if n = 0 then L else put n t) val _ = loop (1, L)",
		`exception E of int exception F of string * exn fun f n = if n % 3 = 0 then raise E n else if n % 3 = 1 then raise F ("f" ^ str n, E n) else 1 / (n - n) fun loop n = loop (1 + (try f n with E k => k % 1000 | F (s, E k) => size s + k % 999 | Div => n + 1 end)) val _ = loop 0`,
		`val a = array (10, ref 0) val _ = put (a, 3, ref 5) fun loop (n, s) = (at (a, n % 10) := !(at (a, (n + 1) % 10)) + 1; put (a, n % 9, ref (n % 100)); loop ((n + 1) % 1000, if s = "aaaa" then "" else part (s ^ "a", 0, size s + 1))) val _ = loop (0, "")`,
		"fun even n = if n = 0 then true else odd (n - 1) and odd n = if n = 0 then false else even (n - 1) fun loop n = if even n then loop (n + 1) else if odd (n + 2) then loop ((n + 3) % 200) else raise Size val _ = loop 0",
		"structure Q :> sig type 'a t val empty : 'a t val add : 'a -> 'a t -> 'a t exception Empty val next : 'a t -> 'a * 'a t end = struct type 'a t = 'a list * 'a list exception Empty val empty = ([], []) fun add x (f, b) = (f, x :: b) fun rev l m = case l of [] => m | x :: r => rev r (x :: m) end fun next q = case q of (x :: f, b) => (x, (f, b)) | ([], []) => raise Empty | ([], b) => next (rev b [], []) end end fun loop q n = let val (x, q) = Q.next (Q.add n (Q.add (n + 1) q)) val (y, q) = Q.next q in loop q ((x + y) % 50) end val _ = loop (Q.add 1 Q.empty) 0",
	}
}

// However long they run, on small heaps and on great ones, programs are never Wrong.
func TestP15_4Endless(t *testing.T) {
	for _, text := range endless() {
		_, bytes := codeOf(t, text)
		for _, cells := range []int{0, 10, 50, 100, 500, 20000} {
			o := played(t, text, bytes, cells, api.MaxFuel)
			if o.Kind != api.Going && o.Kind != api.Memory || cells >= 500 && o.Kind != api.Going {
				t.Errorf("%s, %d cells: %v", text, cells, o)
			}
		}
	}
}

// On every small heap, however much of it there is, likewise.
func TestP15_4Heaps(t *testing.T) {
	for _, text := range knownTexts() {
		_, bytes := codeOf(t, text)
		for cells := range 100 {
			played(t, text, bytes, cells, 2000)
		}
	}
}

// Programs that are known to end do so on the machine; others are Going for as long as there is fuel, or over for want
// of calls.
func TestP15_5Programs(t *testing.T) {
	for _, r := range append(append(endings(), matchEndings()...), catchEndings()...) {
		_, bytes := codeOf(t, r.text)
		o := played(t, r.text, bytes, 5000, 20000)
		means(t, r.text, o)
		end := ending(o)
		if end == "Memory" && r.text == endlessCalls {
			end = "Going"
		}
		if end != r.end || o.Out != r.out {
			t.Errorf("%s: %v, want %s %q", r.text, o, r.end, r.out)
		}
	}
}

// endlessCalls is the one of them that is Going, and has ever more calls.
const endlessCalls = `val _ = print "a" fun f x = (f x; 1) val _ = f 1`

// Every pattern matches what it has to, wherever it stands, and names it.
func TestP15_5Patterns(t *testing.T) {
	for _, text := range matchTexts() {
		_, bytes := codeOf(t, text)
		o := played(t, text, bytes, 2000, 2000)
		means(t, text, o)
		if o.Kind != api.Done && o.Kind != api.Raised {
			t.Errorf("%s: %v", text, o)
		}
	}
}

// endsSo holds a text's code to P15.6, if that speaks of it. It tells how much waited, or 0, if it does not.
func endsSo(t *testing.T, text string) int {
	t.Helper()
	n, f := syntax.Parse(text)
	if f != (api.Fault{}) {
		t.Fatalf("%s: %v", text, f)
	}
	const most = 400
	o, waits := waitedRun(n, api.MaxFuel/8/(len(text)+1))
	fuel := bound(text, o.Steps)
	if o.Kind == api.Going || fuel > api.MaxFuel || waits > most {
		return 0
	}
	_, bytes := codeOf(t, text)
	got := played(t, text, bytes, 100+30*(o.Steps+1)+8*len(text), fuel)
	if got.Kind != o.Kind || got.Name != o.Name || got.Out != o.Out {
		t.Errorf("%.3000s: is %v, on the machine %v", text, o, got)
	}
	return waits
}

// Random programs come to their ends on heaps and with fuel that hang on their steps alone.
func TestP15_6Random(t *testing.T) {
	t.Parallel()
	asked := 0
	for seed := range 1500 {
		if _, text, _, ok := random(seed); ok && endsSo(t, text) > 0 {
			asked++
		}
	}
	if asked < 500 {
		t.Error(asked)
	}
}

// So do others: where the work is that of patterns and of catching, and where texts are as great as they may be.
func TestP15_6Programs(t *testing.T) {
	asked := 0
	for _, text := range append(append(knownTexts(), greatTexts()...), longTexts()...) {
		if endsSo(t, text) > 0 {
			asked++
		}
	}
	for i, text := range matchTexts() {
		if i%7 == 0 && endsSo(t, text) > 0 {
			asked++
		}
	}
	if asked < 100 {
		t.Error(asked)
	}
}

// waitingTexts is programs in which, for each way to wait, a call waits in a call, and so on: f is called so often,
// until a number is too great.
func waitingTexts(calls int) (all []string) {
	for _, body := range []string{
		"~(f(n+1))", "1+f(n+1)", "(f(n+1);1)", "raise f(n+1)", "f(f(n+1))", "not(f(n+1))", "case f(n+1)of x=>x end", "let val x=f(n+1)in x end", "f(n+1)andalso n=1", "f(n+1)orelse n=1", "if f(n+1)then n=1else n=1", "try f(n+1)with Div=>1 end",
	} {
		all = append(all, "fun f n="+body+" val _=f "+strconv.Itoa(api.MaxInt+1-calls))
	}
	return all
}

// As much may wait as P15.6 says: for that there are calls enough.
func TestP15_6Waiting(t *testing.T) {
	for i, first := range waitingTexts(300) {
		most := 0
		for calls := 370; calls <= 402; calls++ {
			most = max(most, endsSo(t, waitingTexts(calls)[i]))
		}
		if most < 375 {
			t.Errorf("%s: at most %d wait", first, most)
		}
	}
	// A call that nothing waits for takes no room, however often it is made.
	for _, calls := range []int{400, 499, 500, 501, 600, 700} {
		if waits := endsSo(t, "fun f n=f(n+1)val _=f "+strconv.Itoa(api.MaxInt+1-calls)); waits == 0 || waits > 5 {
			t.Errorf("%d calls: %d wait", calls, waits)
		}
	}
}

// heldTexts is programs that hold all that they make, n of it.
func heldTexts(n int) []string {
	const names = "a+b+c+d+e+f+g+h+i+j+k+l+m+n+o+p+q+r+s+t+u+v+w+x+y+z"
	row := func(part string, n int) string { return strings.TrimSuffix(strings.Repeat(part+",", n), ",") }
	list := func(ahead, part string) string { return ahead + " val l=[" + row(part, n) + "]" }
	// calls is n calls of which each one waits for the next, until there is none.
	calls := func(ahead, decs string) string {
		return ahead + "fun go(_::rest)=let " + decs + "val x=go rest in x end val _=go[" + row("1", n) + "]"
	}
	const pair, long = "val p=(100,0)", `val s="` + "0123456789012345678901234567890123456789012345678901234567890123456789012345678901234567890123456789" + `"val s=s^s val p=(s,0,200)`
	return []string{
		list("", "array(100,0)"), list("val a=array", "a(100,0)"), list(pair, "array p"), list(pair, "ref p"), list(pair, "(p,p)"), list(pair, "[p]"), list(pair, "fn x=>(x,p)"), list("", `"a"`), list(long, `s^""`), list(long, "part p"), list("val f=part "+long, "f p"), list("", "print"), list("", "Div"), list("exception E of int", "E 1"), list("data t=A of t|B", "A(A B)"),
		// Declarations that take no steps.
		calls("", strings.Repeat("exception E ", 20)), calls("", "fun a x=(b;c;d;x)and b x=(a;c;d;x)and c x=(a;b;d;x)and d x=(a;b;c;x)"),
		calls("val("+strings.ReplaceAll(names, "+", ",")+")=("+row("1", 26)+")", strings.Repeat("fun f1 _="+names+" ", 5)+strings.Repeat("fun f1 _="+names+" and f2 _="+names+" ", 3)),
	}
}

// Programs that hold what they make have room for it.
func TestP15_6Held(t *testing.T) {
	for _, n := range []int{1, 5, 12, 25} {
		for _, text := range heldTexts(n) {
			if endsSo(t, text) == 0 && n < 20 {
				t.Errorf("%s: is not spoken of", text)
			}
		}
	}
}

// growing holds the outcomes of a code on ever greater heaps to P15.7.
func growing(t *testing.T, text string, cells []int, fuel int) (ends []string) {
	t.Helper()
	_, bytes := codeOf(t, text)
	slices.Sort(cells)
	var before api.Outcome
	for i, n := range cells {
		o := played(t, text, bytes, n, fuel)
		if i > 0 && (before.Kind != api.Memory && before != o || !strings.HasPrefix(o.Out, before.Out) || o.Steps < before.Steps) {
			t.Fatalf("%s: %v in %d cells, %v in less", text, o, n, before)
		}
		before = o
		ends = append(ends, ending(o))
	}
	return ends
}

// On greater heaps the machine comes to the same end, or further.
func TestP15_7Random(t *testing.T) {
	t.Parallel()
	both := 0
	for seed := range 1000 {
		_, text, _, ok := random(seed)
		if !ok {
			continue
		}
		r := rand.New(rand.NewSource(int64(seed)))
		ends := growing(t, text, []int{0, r.Intn(20), r.Intn(40), r.Intn(60), r.Intn(100), r.Intn(300), r.Intn(1000), 5000, api.MaxHeap}, 3000)
		if ends[0] == "Memory" && ends[len(ends)-1] != "Memory" {
			both++
		}
	}
	if both < 300 {
		t.Error(both)
	}
}

// Likewise from each heap to the next one.
func TestP15_7Programs(t *testing.T) {
	for _, r := range append(append(endings(), matchEndings()...), catchEndings()...) {
		var cells []int
		for n := range 120 {
			cells = append(cells, n)
		}
		growing(t, r.text, append(cells, 1000, 5000, api.MaxHeap), 5000)
	}
}

// Texts in which a word is another one have the fault of Infer, or do what they mean.
func TestP1WholeTexts(t *testing.T) {
	t.Parallel()
	programs, faults := 0, map[api.Errno]int{}
	for seed := range 400 {
		p, text, _, ok := random(seed)
		if !ok {
			continue
		}
		for range 10 {
			words := strings.Fields(text)
			words[p.Intn(len(words))] = words[p.Intn(len(words))]
			other := strings.Join(words, " ")
			_, want := infer.Infer(other)
			o, f := mlcore.Run(other, 300, 2000)
			if f != want || f.Kind != api.OK && o != (api.Outcome{}) || o.Kind == api.Wrong {
				t.Fatalf("%s: %v %v, want %v", other, o, f, want)
			}
			faults[f.Kind]++
			if f.Kind == api.OK {
				programs++
				means(t, other, o)
			}
		}
	}
	if programs < 100 || len(faults) < 6 {
		t.Error(programs, faults)
	}
}
