package infer

import (
	"math/rand"
	"reflect"
	"slices"
	"strconv"
	"strings"
	"testing"

	"mlcore/api"
	"mlcore/lexer"
	"mlcore/syntax"
)

// writer writes random programs, mostly out of the names that are there.
type writer struct {
	*rand.Rand
	known
}

// known is the names of values, the constructors by themselves and those with an
// argument, and the types, each once for each argument.
type known struct{ names, cons, makers, types []string }

// front is the same names, but that adding to them does not change these.
func (k known) front() known {
	return known{slices.Clip(k.names), slices.Clip(k.cons), slices.Clip(k.makers), slices.Clip(k.types)}
}

func newWriter(seed int64) *writer {
	return &writer{rand.New(rand.NewSource(seed)), known{
		names:  strings.Fields("not str size ref array at put length print"),
		cons:   strings.Fields("true false Div Size"),
		types:  strings.Fields("_ref _array _list unit exn bool string int"),
		makers: strings.Fields("Stop"),
	}}
}

func (w *writer) pick(l ...string) string { return l[w.Intn(len(l))] }

func (w *writer) lower() string { return string(rune('a' + w.Intn(20))) }

// one is one of those that are there, more often a late one; now and then another.
func (w *writer) one(there []string, other string) string {
	if w.Intn(50) == 0 {
		return other
	}
	return there[max(w.Intn(len(there)), w.Intn(len(there)))]
}

func (w *writer) name() string  { return w.one(w.names, w.lower()) }
func (w *writer) con() string   { return w.one(w.cons, w.pick("A", "B", "Stop")) }
func (w *writer) maker() string { return w.one(w.makers, w.pick("A", "B", "Div")) }

// some writes things with a sign between.
func (w *writer) some(least, most int, sign string, thing func() string) string {
	var l []string
	for range least + w.Intn(most-least+1) {
		l = append(l, thing())
	}
	return strings.Join(l, sign)
}

// knowing writes something with names that are forgotten behind it.
func (w *writer) knowing(thing func() string) string {
	before := w.front()
	s := thing()
	w.known = before
	return s
}

func (w *writer) atom() string {
	return w.pick(strconv.Itoa(w.Intn(5)), `"s"`, "()", "[]", w.name(), w.name(), w.name(), w.name(), w.con(), w.maker())
}

func (w *writer) exp(depth int) string {
	if depth <= 0 {
		return w.atom()
	}
	sub := func() string { return w.exp(depth - 1) }
	switch w.Intn(21) {
	case 0, 1:
		return "(" + w.some(2, 3, ", ", sub) + ")"
	case 2:
		return "[" + w.some(0, 3, ", ", sub) + "]"
	case 3, 4, 5:
		return w.knowing(func() string { return "(fn " + w.pat(1) + " => " + sub() + ")" })
	case 6, 7, 8, 9:
		return "(" + sub() + " " + sub() + ")"
	case 10:
		return "(if " + sub() + " then " + sub() + " else " + sub() + ")"
	case 11, 12:
		return "case " + sub() + " of " + w.rules(sub) + " end"
	case 13:
		return "try " + sub() + " with " + w.rules(sub) + " end"
	case 14:
		return "(raise " + sub() + ")"
	case 15, 16:
		return w.knowing(func() string {
			return "let " + w.some(0, 2, " ", func() string { return w.localDec(depth - 1) }) + " in " + sub() + " end"
		})
	case 17:
		return "(" + w.some(2, 2, "; ", sub) + ")"
	case 18:
		return "(" + sub() + " : " + w.typ(2, "") + ")"
	case 19:
		return "(" + w.pick("~", "!") + sub() + ")"
	}
	sign := w.pick("+", "-", "*", "/", "%", "<", ">=", "^", "=", "=", "<>", "::", "::", ":=", "andalso", "orelse")
	return "(" + sub() + " " + sign + " " + sub() + ")"
}

func (w *writer) rules(body func() string) string {
	return w.some(1, 3, " | ", func() string {
		return w.knowing(func() string { return w.pat(2) + " => " + body() })
	})
}

func (w *writer) pat(depth int) string {
	if depth <= 0 || w.Intn(3) == 0 {
		switch w.Intn(8) {
		case 0:
			return w.pick("_", "~3", "7", `"s"`, "()", "[]")
		case 1:
			return "(" + w.con() + ")"
		}
		x := w.lower()
		w.names = append(w.names, x)
		return x
	}
	sub := func() string { return w.pat(depth - 1) }
	switch w.Intn(7) {
	case 0, 1:
		return "(" + w.some(2, 3, ", ", sub) + ")"
	case 2:
		return "[" + w.some(0, 2, ", ", sub) + "]"
	case 3:
		return "(" + sub() + " :: " + sub() + ")"
	case 4:
		x := w.lower()
		w.names = append(w.names, x)
		return "(" + x + " as " + sub() + ")"
	case 5:
		return "(" + sub() + " : " + w.typ(1, "") + ")"
	}
	return "(" + w.maker() + " " + sub() + ")"
}

func (w *writer) typ(depth int, variables string) string {
	if depth <= 0 || w.Intn(3) == 0 {
		return w.pick(append(strings.Fields(variables), "int", "bool", "string")...)
	}
	sub := func() string { return w.typ(depth-1, variables) }
	switch w.Intn(5) {
	case 0:
		return "(" + sub() + " -> " + sub() + ")"
	case 1:
		return "(" + w.some(2, 3, " * ", sub) + ")"
	}
	name := w.one(w.types, w.pick("t", "_u", "_int"))
	switch strings.Count(name, "_") {
	case 0:
		return name
	case 1:
		return sub() + " " + name[1:]
	}
	return "(" + sub() + ", " + sub() + ") " + name[2:]
}

// head gives a head, its variables, and what is known by it.
func (w *writer) head() (string, string, string) {
	name := w.pick("t", "u", "v", "w", "int")
	variables := w.pick("", "", "'a", "''a", "'a 'b", "'a 'b", "''b 'a")
	if w.Intn(40) == 0 {
		variables = "'a 'a"
	}
	count := len(strings.Fields(variables))
	as := strings.Repeat("_", count) + name
	if count == 0 {
		return name, variables, as
	}
	return "(" + strings.ReplaceAll(variables, " ", ", ") + ") " + name, variables, as
}

func (w *writer) localDec(depth int) string {
	switch w.Intn(8) {
	case 0, 1, 2, 3:
		e := w.exp(depth)
		return "val " + w.pat(2) + " = " + e
	case 4, 5, 6:
		return "fun " + w.some(1, 2, " and ", func() string { return w.fbind(depth) })
	}
	return "exception " + w.declared(w.pick("Stop", "A", "E"), "")
}

// declared writes a new constructor.
func (w *writer) declared(name, variables string) string {
	if w.Intn(2) == 0 {
		w.cons = append(w.cons, name)
		return name
	}
	w.makers = append(w.makers, name)
	return name + " of " + w.typ(2, variables)
}

func (w *writer) fbind(depth int) string {
	name := w.lower()
	w.names = append(w.names, name)
	return w.knowing(func() string {
		params := w.some(1, 3, " ", func() string { return w.pat(1) })
		typed := ""
		if w.Intn(6) == 0 {
			typed = " : " + w.typ(2, "")
		}
		return name + " " + params + typed + " = " + w.exp(depth)
	})
}

func (w *writer) dec(depth int) string {
	switch w.Intn(8) {
	case 0:
		head, variables, as := w.head()
		t := w.typ(3, variables)
		w.types = append(w.types, as)
		return "type " + head + " = " + t
	case 1:
		return w.data()
	}
	return w.localDec(depth)
}

func (w *writer) data() string {
	next := w.Intn(5)
	return "data " + w.some(1, 2, " and ", func() string {
		head, variables, as := w.head()
		w.types = append(w.types, as)
		return head + " = " + w.some(1, 3, " | ", func() string {
			next += w.Intn(20) / 18
			next++
			return w.declared("K"+strconv.Itoa(next%9), variables)
		})
	})
}

// agree holds Check to what the chapter's words say of a text; it answers whether the text is a program.
func agree(t *testing.T, text string) bool {
	t.Helper()
	n, f := syntax.Parse(text)
	if f.Kind != api.OK {
		list, got := Infer(text)
		if list != nil || got != f {
			t.Fatalf("%s\n got %s %v\nwant %v", text, told(list), got, f)
		}
		return false
	}
	want, wantFault := slowCheck(n)
	got, fault := Infer(text)
	if fault != wantFault || !reflect.DeepEqual(got, want) {
		t.Fatalf("%s\n got %s %v\nwant %s %v", text, told(got), fault, told(want), wantFault)
	}
	return fault.Kind == api.OK
}

// Programs are written declaration by declaration; one that does not go is left out again.
func TestP4_1Random(t *testing.T) {
	kinds := map[api.Errno]int{}
	kept, polymorphic := 0, 0
	for seed := range int64(250) {
		w := newWriter(seed)
		text := ""
		for range 30 {
			before := w.front()
			longer := text + " " + w.dec(1+w.Intn(3))
			if agree(t, longer) {
				text = longer
				kept++
			} else {
				w.known = before
			}
			list, f := Infer(longer)
			kinds[f.Kind]++
			if strings.Contains(told(list), "'") {
				polymorphic++
			}
		}
	}
	t.Log(kept, polymorphic, kinds)
	for _, kind := range []api.Errno{api.OK, api.ErrName, api.ErrTwice, api.ErrArity, api.ErrType, api.ErrCircle, api.ErrEqual} {
		if kinds[kind] < 10 {
			t.Errorf("%v came only %d times", kind, kinds[kind])
		}
	}
}

// great writes an expression that has a type, unless this is too great.
func (w *writer) great(depth int) string {
	if depth == 0 {
		return w.one(w.names, "1")
	}
	sub := func() string { return w.great(depth - 1) }
	form := w.pick("(%, %)", "[%]", "two %", "(fn x => (x, x)) %", "let val x = % in (x, x) end", "case % of x => (x, x) end",
		"Z (%, raise Div)", "ref %", "(%; %)", "fn x => %", "(fn (Z x) => x) (Z (%, raise Div))", "let fun f x = x and g x = f % in f end")
	for strings.Contains(form, "%") {
		form = strings.Replace(form, "%", "("+sub()+")", 1)
	}
	return form
}

func (w *writer) greatDec() string {
	name, e := w.lower(), w.great(1+w.Intn(3))
	w.names = append(w.names, name)
	return w.pick("val "+name+" = "+e, "val ("+name+", b) = ("+e+", h)", "val Z "+name+" = Z ("+e+", raise Div)", "val _ = r := ["+e+"]",
		"fun f x = x and "+name+" y = f ("+e+")", "fun "+name+" x = (r := x; "+e+")", "val r = ref [] val "+name+" = ("+e+", r, r)")
}

// With great types at hand others soon are too great.
func TestP4_1RandomBig(t *testing.T) {
	kinds := map[api.Errno]int{}
	for seed := range int64(90) {
		w := newWriter(seed)
		w.names = strings.Fields("h h i")
		text := "data 'a z = Z of 'a * 'a fun two x = (x, x) val h = two (two (two (two 1))) val i = (h, h, h, two h) val r = ref []"
		for range 10 {
			before := w.front()
			longer := text + " " + w.greatDec()
			if agree(t, longer) {
				text = longer
			} else {
				w.known = before
			}
			_, f := Infer(longer)
			kinds[f.Kind]++
		}
	}
	if kinds[api.ErrBig] < 100 || kinds[api.OK] < 100 {
		t.Errorf("not enough of each kind: %v", kinds)
	}
}

func TestP4_2Random(t *testing.T) {
	good := 0
	for seed := range int64(8000) {
		w := newWriter(seed)
		text := w.exp(1 + w.Intn(4))
		n, f := syntax.ParseExp(text)
		if f.Kind != api.OK {
			t.Fatal(text, f)
		}
		want, wantFault := slowExp(n)
		got, fault := InferExp(text)
		if got != want || fault != wantFault {
			t.Fatalf("%s\n got %s %v\nwant %s %v", text, got, fault, want, wantFault)
		}
		if fault.Kind == api.OK {
			good++
		}
	}
	t.Log(good)
}

func TestP4_1Changed(t *testing.T) { agreeChanged(t, 6000, programs) }

// agreeChanged holds Check to the chapter's words for programs in which tokens
// were taken from elsewhere, mostly for others of their kind.
func agreeChanged(t *testing.T, often int, list []row) {
	t.Helper()
	r := rand.New(rand.NewSource(1))
	kinds := map[api.Errno]int{}
	for range often {
		text := list[r.Intn(len(list))].text + " " + list[r.Intn(len(list))].text
		tokens, f := lexer.Tokens(text)
		if f.Kind != api.OK {
			t.Fatal(text, f)
		}
		changed := exchange(r, text, tokens)
		agree(t, changed)
		_, f = Infer(changed)
		kinds[f.Kind]++
	}
	t.Log(kinds)
}

func exchange(r *rand.Rand, text string, tokens []api.Token) string {
	last := len(tokens) - 1
	list := make([]string, last)
	for i, x := range tokens[:last] {
		list[i] = strings.TrimSpace(text[x.At:tokens[i+1].At])
	}
	for range 1 + r.Intn(2) {
		for range 100 {
			i, j := r.Intn(last), r.Intn(last)
			named := tokens[i].Kind < api.TokWord
			if named && tokens[i].Kind == tokens[j].Kind && list[i] != list[j] || r.Intn(200) == 0 {
				list[i] = list[j]
				break
			}
		}
	}
	return strings.Join(list, " ")
}
