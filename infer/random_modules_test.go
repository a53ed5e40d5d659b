package infer

import (
	"slices"
	"strings"
	"testing"

	"mlcore/api"
	"mlcore/lexer"
	"mlcore/syntax"
)

// modules writes random programs with structures. A declaration that does not go
// is left out again, so that what is written has types, but for its last one.
type modules struct {
	*writer
	t       *testing.T
	text    string            // a program
	open    []string          // what is written of the structures around, ahead of their end
	structs []string          // paths
	sigs    []string          // names
	kinds   map[api.Errno]int // how often each answer came
}

func newModules(t *testing.T, seed int64, kinds map[api.Errno]int) *modules {
	m := &modules{writer: newWriter(seed), t: t, kinds: kinds}
	m.structs = []string{"A"}
	m.sigs = []string{"S"}
	return m
}

// whole is the program that there is with one more declaration.
func (m *modules) whole(dec string) string {
	return m.text + strings.Join(m.open, " ") + " " + dec + strings.Repeat(" end", len(m.open))
}

// goes asks whether a declaration goes, of both checkers.
func (m *modules) goes(dec string) bool {
	text := m.whole(dec)
	_, f := Infer(text)
	m.kinds[f.Kind]++
	return agree(m.t, text)
}

// try takes a declaration into what is written, if it goes.
func (m *modules) try(dec string) bool {
	ok := m.goes(dec)
	if ok && len(m.open) == 0 {
		m.text += " " + dec
	} else if ok {
		m.open[len(m.open)-1] += " " + dec
	}
	return ok
}

// step writes a declaration, and forgets what it declares if it does not go.
func (m *modules) step() {
	before, structs, sigs := m.front(), slices.Clip(m.structs), slices.Clip(m.sigs)
	ok := false
	switch m.Intn(10) {
	case 0, 1, 2:
		ok = m.structure()
	case 3:
		ok = m.try("open " + m.opened())
	case 4:
		name := m.pick("A", "B", "C")
		from := m.pick(m.structs...)
		ok = m.try("structure " + name + m.pick("", "", " : "+m.pick(m.sigs...), " :> "+m.pick(m.sigs...)) + " = " + from)
		m.bring(from+".", name+".")
	default:
		ok = m.try(m.dec(1 + m.Intn(2)))
	}
	if !ok {
		m.known, m.structs, m.sigs = before, structs, sigs
	}
}

func (m *modules) opened() string {
	from := m.pick(m.structs...)
	m.bring(from+".", "")
	return from
}

// bring knows the names of one path by another, too.
func (m *modules) bring(from, to string) {
	for _, list := range []*[]string{&m.names, &m.cons, &m.makers, &m.types, &m.structs} {
		for _, x := range *list {
			marks := strings.Count(x, "_")
			if rest, ok := strings.CutPrefix(x[marks:], from); ok {
				*list = append(*list, x[:marks]+to+rest)
			}
		}
	}
	if to != "" {
		m.structs = append(m.structs, strings.TrimSuffix(to, "."))
	}
}

// leave calls what came behind others by the path of a structure.
func (m *modules) leave(before known, structs int, path string) {
	call := func(list *[]string, first int) {
		own := slices.Clone((*list)[first:])
		*list = (*list)[:first:first]
		for _, x := range own {
			marks := strings.Count(x, "_")
			*list = append(*list, x[:marks]+path+x[marks:])
		}
	}
	call(&m.names, len(before.names))
	call(&m.cons, len(before.cons))
	call(&m.makers, len(before.makers))
	call(&m.types, len(before.types))
	call(&m.structs, structs)
	m.structs = append(m.structs, strings.TrimSuffix(path, "."))
}

func (m *modules) structure() bool {
	name := m.pick("A", "B", "C", "D")
	before, structs := m.front(), len(m.structs)
	m.open = append(m.open, " structure "+name+" = struct")
	for range 1 + m.Intn(6) {
		if len(m.open) < 3 {
			m.step()
		} else if before := m.front(); !m.try(m.dec(1)) {
			m.known = before
		}
	}
	sig := m.signature()
	last := len(m.open) - 1
	content := strings.TrimPrefix(m.open[last], " structure "+name) + " end"
	m.open = m.open[:last]
	m.leave(before, structs, name+".")
	if m.Intn(3) == 0 {
		return m.try("structure " + name + content)
	}
	for range 3 {
		m.goes("structure " + name + m.pick(" : ", " :> ") + m.changed(sig) + content)
	}
	return m.try("structure " + name + m.pick(" : ", " :> ") + m.called(sig) + content)
}

// signature writes one of the innermost structure that is written.
func (m *modules) signature() string {
	path := ""
	for _, s := range m.open {
		path += strings.Fields(s)[1] + "."
	}
	body, typings := m.body()
	return "sig" + m.specs(body, typings, path) + " end"
}

// called is a signature, or a name that it has from now on.
func (m *modules) called(sig string) string {
	s := m.pick("S", "T", "U")
	if len(m.open) > 0 || m.Intn(2) == 0 || !m.try("signature "+s+" = "+sig) {
		return sig
	}
	m.sigs = append(m.sigs, s)
	return s
}

// body is the tree of the innermost structure that is written, and all typings.
func (m *modules) body() (api.Node, []api.Typing) {
	n, f := syntax.Parse(m.whole(""))
	if f.Kind != api.OK {
		m.t.Fatal(m.whole(""), f)
	}
	typings, _ := Check(n)
	for range m.open {
		n = n.Kids[len(n.Kids)-1]
		n = n.Kids[len(n.Kids)-1]
	}
	return n, typings
}

// specs writes specifications of what a structure has: most of it, mostly in an order that goes.
func (m *modules) specs(body api.Node, typings []api.Typing, path string) string {
	var list []string
	for _, d := range body.Kids {
		switch d.Kind {
		case api.DType, api.DData, api.DExn:
			list = append(list, m.typeSpec(d))
		case api.DStruct:
			if inner := d.Kids[len(d.Kids)-1]; inner.Kind == api.SBody {
				list = append(list, "structure "+d.Name+" : sig"+m.specs(inner, typings, path+d.Name+".")+" end")
			} else if m.Intn(2) == 0 {
				list = append(list, "structure "+d.Name+" : "+m.pick("sig end", m.pick(m.sigs...)))
			}
		}
	}
	var vals []string
	for _, x := range typings {
		if name, ok := strings.CutPrefix(x.Name, path); ok && !strings.Contains(name, ".") {
			vals = append(vals, "val "+name+" : "+m.within(x.Type, path))
		}
	}
	m.Shuffle(len(vals), func(i, j int) { vals[i], vals[j] = vals[j], vals[i] })
	text := ""
	for _, s := range append(list, vals...) {
		if m.Intn(6) > 0 {
			text += " " + s
		}
	}
	return text
}

// within says a type as it is said in the structure of a path, or less generally.
func (m *modules) within(t, path string) string {
	for path != "" {
		t = strings.ReplaceAll(t, path, "")
		path = path[:strings.LastIndex(path[:len(path)-1], ".")+1]
	}
	if m.Intn(6) == 0 {
		t = strings.ReplaceAll(t, m.pick("''a", "'a", "'b"), m.pick("int", "''a", "string", "'a"))
	}
	return t
}

func (m *modules) typeSpec(d api.Node) string {
	heads := []api.Node{d}
	if d.Kind == api.DData {
		heads = d.Kids
	}
	if d.Kind == api.DExn || m.Intn(2) == 0 {
		return syntax.Print(d)
	}
	var list []string
	for _, h := range heads {
		var variables []string
		for _, v := range h.Kids[:h.N] {
			variables = append(variables, v.Name)
		}
		head := h.Name
		if len(variables) > 0 {
			head = "(" + strings.Join(variables, ", ") + ") " + head
		}
		list = append(list, "type "+head)
	}
	return strings.Join(list, " ")
}

// changed takes a token from elsewhere.
func (m *modules) changed(text string) string {
	tokens, _ := lexer.Tokens(text)
	return exchange(m.Rand, text, tokens)
}

func TestP5_1Random(t *testing.T) {
	kinds := map[api.Errno]int{}
	for seed := range int64(64) {
		m := newModules(t, seed, kinds)
		for range 14 {
			m.step()
			if len(m.text) > 2500 {
				break
			}
		}
	}
	t.Log(kinds)
	for _, kind := range []api.Errno{api.OK, api.ErrName, api.ErrTwice, api.ErrArity, api.ErrType, api.ErrEqual, api.ErrLess, api.ErrOther} {
		if kinds[kind] < 5 {
			t.Errorf("%v came only %d times", kind, kinds[kind])
		}
	}
}

// offers is what may stand in a structure, by groups of which it has one each:
// ahead of what a signature may ask of it. The last of these does not always go.
var offers = [][]string{
	{"type t = int; type t; type t = int; data t = G", "data t = G | H of t; type t; data t = G | H of t; data t = H of t | G", "type t = bool; type t; type t = bool; type 'a t"},
	{"type 'a u = 'a list; type 'a u; type 'b u = 'b list; type u", "data 'a u = K of 'a; type 'a u; data 'a u = K of 'a; data 'b u = K of t", "type 'a u = int; type 'b u; type 'a u = int; type 'a u = 'a"},
	{"data w = D | E of int; type w; data w = D | E of int; data w = D", "data w = D | E of t; data w = D | E of t; type w; data w = D | E of int", "type w = t u; type w; type w = t u; type w = int u"},
	{
		"val x = 1; val x : int; val x : t", "val x = fn x => x; val x : 'a -> 'a; val x : t -> t; val x : 'a u -> 'a u; val x : 'a -> 'b", "val x = (fn x => x) (fn x => x); val x : t -> t; val x : int u -> int u; val x : 'a -> 'a",
		"val x = []; val x : 'a list; val x : int list; val x : 'a u", "val x = ref []; val x : t list ref; val x : t u list ref; val x : 'a list ref", "fun x (y : t) = y; val x : t -> t; val x : t -> int",
	},
	{
		"fun y x = raise Div; val y : 'a u -> 'a; val y : t -> w; val y : ''a -> 'b; val y : 'a", "fun y x = x = x; val y : ''a -> bool; val y : int list -> bool; val y : t ref -> bool; val y : 'a -> bool",
		"val y = raise Div; val y : t; val y : t u; val y : w list; val y : 'a", "fun y (x : int u) = [x]; val y : int u -> int u list; val y : t u -> int u list",
	},
	{"exception F of int; exception F of int; exception F of t", "exception F; exception F; exception F of int", "structure C = struct type t = t val x = (raise Div : t) end; structure C : sig type t val x : t end; structure C : sig val x : t end; structure C : sig type u end", "val z = 1; val z : int; val r : int"},
}

// offered writes some of what may stand in a structure, and what a signature may ask of it.
func (w *writer) offered() (string, string) {
	body, sig := "", ""
	for _, group := range offers {
		o := strings.Split(w.pick(group...), ";")
		body += " " + o[0]
		if last := len(o) - 1; last > 1 && w.Intn(5) > 0 {
			o = o[:last]
		}
		if w.Intn(9) > 0 {
			sig += w.pick(o[1:]...)
		}
	}
	return "struct" + body + " end", "sig" + sig + " end"
}

// Structures of a few types and values, held against signatures that ask for
// nearly these, and what is done with them then.
func TestP5_1RandomMatching(t *testing.T) {
	kinds := map[api.Errno]int{}
	for seed := range int64(1000) {
		w := newWriter(seed)
		body, sig := w.offered()
		text := w.pick(
			"structure B = "+body+" structure A "+w.pick(": ", ":> ")+sig+" = B", "structure A "+w.pick(": ", ":> ")+sig+" = "+body+" structure B = A",
			"signature S = "+sig+" structure A : S = "+body+" structure B :> S = A", "structure B = "+body+" structure C = struct structure A "+w.pick(": ", ":> ")+sig+" = B end open C",
			"signature S = "+sig+" structure C : sig structure A : S type t = A.t end = struct structure A = "+body+" type t = A.t end open C structure B :> S = A",
		)
		_, f := Infer(text)
		kinds[f.Kind]++
		if !agree(t, text) {
			continue
		}
		for range 4 {
			used := text + " val k = " + w.pick("[A.%, B.%]", "A.% = A.%", "A.% = B.%", "(A.%, A.%)", "fn (x : A.t) => A.% = x", "fn (x : int A.u) => x = x", "[fn (x : int B.u) => x, fn (x : int A.u) => x]", "case A.D of A.D => 1 | B.E x => 2 end", "fn (x : A.w) => x = x", "(A.x 1, A.x true)", "A.y (A.x A.y)")
			for strings.Contains(used, "%") {
				used = strings.Replace(used, "%", w.pick("x", "y", "D", "E", "G"), 1)
			}
			_, f = Infer(used)
			kinds[f.Kind]++
			agree(t, used)
		}
	}
	t.Log(kinds)
	for _, kind := range []api.Errno{api.OK, api.ErrName, api.ErrType, api.ErrEqual, api.ErrLess, api.ErrOther} {
		if kinds[kind] < 15 {
			t.Errorf("%v came only %d times", kind, kinds[kind])
		}
	}
}
