package syntax

import (
	"math/rand"
	"strconv"
	"testing"

	"mlcore/api"
	"mlcore/lexer"
)

// deriver writes a random text by the grammar's rules, and says while it does
// which tree the chapter gives this text.
type deriver struct {
	*rand.Rand
	text []byte
	size int // how much may still be chosen freely; then the shortest is taken
}

func (d *deriver) chance(n int) bool {
	d.size--
	return d.size > 0 && d.Intn(n) == 0
}

// put writes a token, with something that is no token ahead of it, and gives its place.
func (d *deriver) put(token string) int {
	d.text = append(d.text, []string{" ", " ", "  ", "\n\t", "(*c*)", " (* ( (**) *) "}[d.Intn(6)]...)
	d.text = append(d.text, token...)
	return len(d.text) - len(token)
}

func (d *deriver) lower() string { return []string{"a", "f", "x'", "_1", "list", "ends"}[d.Intn(6)] }
func (d *deriver) upper() string { return []string{"A", "Node", "S_1"}[d.Intn(3)] }
func (d *deriver) tyvar() string { return []string{"'a", "''b", "'c1"}[d.Intn(3)] }

// named is a node of one token, whose text is its name.
func (d *deriver) named(kind int, token string) api.Node {
	return api.Node{Kind: kind, At: d.put(token), Name: token}
}

// path writes a path that ends with this name.
func (d *deriver) path(kind int, last string) api.Node {
	at, name := -1, ""
	for d.chance(4) {
		part := d.upper()
		at = first(at, d.put(part))
		d.put(".")
		name += part + "."
	}
	at = first(at, d.put(last))
	return api.Node{Kind: kind, At: at, Name: name + last}
}

func first(a, b int) int {
	if a >= 0 {
		return a
	}
	return b
}

// row writes a thing, and others with a sign between; at least so many.
func (d *deriver) row(least int, sign string, thing func() api.Node) []api.Node {
	list := []api.Node{thing()}
	for len(list) < least || d.chance(3) {
		d.put(sign)
		list = append(list, thing())
	}
	return list
}

// left writes operators that group to the left.
func (d *deriver) left(thing func() api.Node, signs ...string) api.Node {
	n := thing()
	for d.chance(6) {
		n = d.join(n, signs[d.Intn(len(signs))], thing)
	}
	return n
}

func (d *deriver) join(a api.Node, sign string, thing func() api.Node) api.Node {
	d.put(sign)
	n := api.Node{Kind: api.EOp, At: a.At, Name: sign, Kids: []api.Node{a, thing()}}
	switch sign {
	case "orelse":
		n.Kind, n.Name = api.EOr, ""
	case "andalso":
		n.Kind, n.Name = api.EAnd, ""
	}
	return n
}

func (d *deriver) exp() api.Node {
	switch {
	case d.chance(9):
		at := d.put("fn")
		p := d.apat()
		d.put("=>")
		return api.Node{Kind: api.EFn, At: at, Kids: []api.Node{p, d.exp()}}
	case d.chance(9):
		at := d.put("if")
		a := d.exp()
		d.put("then")
		b := d.exp()
		d.put("else")
		return api.Node{Kind: api.EIf, At: at, Kids: []api.Node{a, b, d.exp()}}
	case d.chance(9):
		at := d.put("raise")
		return api.Node{Kind: api.ERaise, At: at, Kids: []api.Node{d.exp()}}
	}
	n := d.or()
	if d.chance(8) {
		n = d.join(n, ":=", d.or)
	}
	return n
}

func (d *deriver) or() api.Node  { return d.left(d.and, "orelse") }
func (d *deriver) and() api.Node { return d.left(d.cmp, "andalso") }

func (d *deriver) cmp() api.Node {
	n := d.list()
	if d.chance(8) {
		n = d.join(n, []string{"=", "<>", "<", "<=", ">", ">="}[d.Intn(6)], d.list)
	}
	return n
}

func (d *deriver) list() api.Node {
	n := d.sum()
	if d.chance(6) {
		n = d.join(n, "::", d.list)
	}
	return n
}

func (d *deriver) sum() api.Node { return d.left(d.mul, "+", "-", "^") }
func (d *deriver) mul() api.Node { return d.left(d.app, "*", "/", "%") }

func (d *deriver) app() api.Node {
	n := d.un()
	for d.chance(5) {
		n = api.Node{Kind: api.EApp, At: n.At, Kids: []api.Node{n, d.un()}}
	}
	return n
}

func (d *deriver) un() api.Node {
	if d.chance(7) {
		sign := []string{"~", "!"}[d.Intn(2)]
		n := d.named(api.EOp, sign)
		n.Kids = []api.Node{d.un()}
		return n
	}
	return d.atom()
}

func (d *deriver) atom() api.Node {
	if !d.chance(2) {
		return d.constant(api.EInt, api.EStr, api.EVar, api.ECon)
	}
	switch d.Intn(10) {
	case 0:
		return d.round(api.ETuple, 0, ",", d.exp)
	case 1, 2:
		d.put("(")
		n := d.exp()
		d.put(")")
		return n
	case 3:
		return d.round(api.ETuple, 2, ",", d.exp)
	case 4:
		return d.round(api.ESeq, 2, ";", d.exp)
	case 5:
		return d.has(api.EHas, d.exp)
	case 6:
		return d.square(api.EList, d.exp)
	case 7:
		at := d.put("let")
		var kids []api.Node
		for d.chance(2) {
			kids = append(kids, d.localDec())
		}
		d.put("in")
		n := api.Node{Kind: api.ELet, At: at, N: len(kids), Kids: append(kids, d.exp())}
		d.put("end")
		return n
	case 8:
		return d.choice(api.ECase, "case", "of")
	}
	return d.choice(api.ETry, "try", "with")
}

// constant writes what has no parts, as an expression or a pattern.
func (d *deriver) constant(number, text, variable, con int) api.Node {
	switch d.Intn(6) {
	case 0:
		n := d.Intn(1000)
		return api.Node{Kind: number, At: d.put(strconv.Itoa(n)), N: n}
	case 1:
		s := []string{"", "(", "a b", "\n\"\\\x00", ". ."}[d.Intn(5)]
		return api.Node{Kind: text, At: d.put(lexer.Quote(s)), Name: s}
	case 2:
		return d.path(con, d.upper())
	case 3:
		return d.named(con, []string{"true", "false"}[d.Intn(2)])
	}
	if variable == api.PVar {
		return d.named(variable, d.lower())
	}
	return d.path(variable, d.lower())
}

// round writes things in round brackets; none, if none are asked for.
func (d *deriver) round(kind, least int, sign string, thing func() api.Node) api.Node {
	n := api.Node{Kind: kind, At: d.put("(")}
	if least > 0 {
		n.Kids = d.row(least, sign, thing)
	}
	d.put(")")
	return n
}

func (d *deriver) square(kind int, thing func() api.Node) api.Node {
	n := api.Node{Kind: kind, At: d.put("[")}
	if d.chance(2) {
		n.Kids = d.row(1, ",", thing)
	}
	d.put("]")
	return n
}

func (d *deriver) has(kind int, thing func() api.Node) api.Node {
	at := d.put("(")
	a := thing()
	d.put(":")
	n := api.Node{Kind: kind, At: at, Kids: []api.Node{a, d.typ()}}
	d.put(")")
	return n
}

func (d *deriver) choice(kind int, word, middle string) api.Node {
	at := d.put(word)
	kids := []api.Node{d.exp()}
	d.put(middle)
	kids = append(kids, d.row(1, "|", func() api.Node {
		p := d.pat()
		d.put("=>")
		return api.Node{Kind: api.Rule, At: p.At, Kids: []api.Node{p, d.exp()}}
	})...)
	d.put("end")
	return api.Node{Kind: kind, At: at, Kids: kids}
}

func (d *deriver) pat() api.Node {
	n := d.cpat()
	if d.chance(4) {
		d.put("::")
		n = api.Node{Kind: api.PCons, At: n.At, Kids: []api.Node{n, d.pat()}}
	}
	return n
}

func (d *deriver) cpat() api.Node {
	if d.chance(4) {
		n := d.path(api.PCon, d.upper())
		n.Kids = []api.Node{d.apat()}
		return n
	}
	return d.apat()
}

func (d *deriver) apat() api.Node {
	if !d.chance(2) {
		return d.constant(api.PInt, api.PStr, api.PVar, api.PCon)
	}
	switch d.Intn(8) {
	case 0:
		return api.Node{Kind: api.PAny, At: d.put("_")}
	case 1:
		at, n := d.put("~"), d.Intn(1000)
		d.put(strconv.Itoa(n))
		return api.Node{Kind: api.PInt, At: at, N: -n}
	case 2:
		return d.round(api.PTuple, 0, ",", d.pat)
	case 3:
		d.put("(")
		n := d.pat()
		d.put(")")
		return n
	case 4:
		return d.round(api.PTuple, 2, ",", d.pat)
	case 5:
		n := api.Node{Kind: api.PAs, At: d.put("("), Name: d.lower()}
		d.put(n.Name)
		d.put("as")
		n.Kids = []api.Node{d.pat()}
		d.put(")")
		return n
	case 6:
		return d.has(api.PHas, d.pat)
	}
	return d.square(api.PList, d.pat)
}

func (d *deriver) typ() api.Node {
	n := d.prod()
	if d.chance(5) {
		d.put("->")
		n = api.Node{Kind: api.YArrow, At: n.At, Kids: []api.Node{n, d.typ()}}
	}
	return n
}

func (d *deriver) prod() api.Node {
	n := d.post()
	if d.chance(4) {
		d.put("*")
		kids := append([]api.Node{n}, d.row(1, "*", d.post)...)
		n = api.Node{Kind: api.YTuple, At: n.At, Kids: kids}
	}
	return n
}

func (d *deriver) post() api.Node {
	n, at := d.postHead()
	for d.chance(4) {
		name := d.path(api.YCon, d.lower())
		n = api.Node{Kind: api.YCon, At: at, Name: name.Name, Kids: []api.Node{n}}
	}
	return n
}

// postHead gives a type, and where its text begins.
func (d *deriver) postHead() (api.Node, int) {
	if !d.chance(2) {
		n := api.Node{}
		if d.Intn(2) == 0 {
			n = d.named(api.YVar, d.tyvar())
		} else {
			n = d.path(api.YCon, d.lower())
		}
		return n, n.At
	}
	at := d.put("(")
	if d.Intn(2) == 0 {
		n := d.typ()
		d.put(")")
		return n, at
	}
	kids := d.row(2, ",", d.typ)
	d.put(")")
	name := d.path(api.YCon, d.lower())
	return api.Node{Kind: api.YCon, At: at, Name: name.Name, Kids: kids}, at
}

func (d *deriver) localDec() api.Node {
	switch d.Intn(4) {
	case 0:
		return d.dec("val")
	case 1:
		return d.dec("fun")
	case 2:
		return d.dec("exception")
	}
	return d.dec("open")
}

// dec writes a declaration, or what a signature has that is written as one.
func (d *deriver) dec(word string) api.Node {
	n := api.Node{At: d.put(word)}
	switch word {
	case "val":
		n.Kind, n.Kids = api.DVal, []api.Node{d.pat()}
		d.put("=")
		n.Kids = append(n.Kids, d.exp())
	case "fun":
		n.Kind, n.Kids = api.DFun, d.row(1, "and", d.fbind)
	case "type":
		d.head(&n, api.DType)
		d.put("=")
		n.Kids = append(n.Kids, d.typ())
	case "data":
		n.Kind, n.Kids = api.DData, d.row(1, "and", d.dbind)
	case "exception":
		con := d.con()
		n.Kind, n.Name, n.Kids = api.DExn, con.Name, con.Kids
	case "structure":
		d.structure(&n)
	case "signature":
		n.Kind, n.Name = api.DSig, d.upper()
		d.put(n.Name)
		d.put("=")
		n.Kids = []api.Node{d.sig()}
	case "open":
		n.Kind, n.Name = api.DOpen, d.path(0, d.upper()).Name
	}
	return n
}

func (d *deriver) fbind() api.Node {
	n := d.named(api.FBind, d.lower())
	n.Kids = []api.Node{d.apat()}
	for d.chance(2) {
		n.Kids = append(n.Kids, d.apat())
	}
	typed := d.chance(3)
	var t api.Node
	if typed {
		d.put(":")
		t = d.typ()
	}
	d.put("=")
	body := d.exp()
	if typed {
		body = api.Node{Kind: api.EHas, At: body.At, Kids: []api.Node{body, t}}
	}
	n.Kids = append(n.Kids, body)
	return n
}

// head writes a head into a node, and gives its place.
func (d *deriver) head(n *api.Node, kind int) int {
	at := -1
	variable := func() api.Node {
		v := d.named(api.YVar, d.tyvar())
		at = first(at, v.At)
		return v
	}
	switch d.Intn(3) {
	case 0:
		n.Kids = []api.Node{variable()}
	case 1:
		at = d.put("(")
		n.Kids = d.row(1, ",", variable)
		d.put(")")
	}
	n.Kind, n.N, n.Name = kind, len(n.Kids), d.lower()
	return first(at, d.put(n.Name))
}

func (d *deriver) dbind() api.Node {
	var n api.Node
	n.At = d.head(&n, api.DBind)
	d.put("=")
	n.Kids = append(n.Kids, d.row(1, "|", d.con)...)
	return n
}

func (d *deriver) con() api.Node {
	n := d.named(api.Con, d.upper())
	if d.chance(2) {
		d.put("of")
		n.Kids = []api.Node{d.typ()}
	}
	return n
}

func (d *deriver) structure(n *api.Node) {
	n.Kind, n.Name, n.N = api.DStruct, d.upper(), d.Intn(3)
	d.put(n.Name)
	if n.N > 0 {
		d.put([]string{":", ":>"}[n.N-1])
		n.Kids = append(n.Kids, d.sig())
	}
	d.put("=")
	if !d.chance(2) {
		n.Kids = append(n.Kids, d.path(api.SPath, d.upper()))
		return
	}
	body := api.Node{Kind: api.SBody, At: d.put("struct")}
	for d.chance(2) {
		body.Kids = append(body.Kids, d.innerDec())
	}
	d.put("end")
	n.Kids = append(n.Kids, body)
}

func (d *deriver) innerDec() api.Node {
	return d.dec([]string{"val", "fun", "type", "data", "exception", "structure", "open"}[d.Intn(7)])
}

func (d *deriver) sig() api.Node {
	if !d.chance(2) {
		return d.named(api.GName, d.upper())
	}
	n := api.Node{Kind: api.GBody, At: d.put("sig")}
	for d.chance(2) {
		n.Kids = append(n.Kids, d.spec())
	}
	d.put("end")
	return n
}

func (d *deriver) spec() api.Node {
	var n api.Node
	switch d.Intn(5) {
	case 0:
		n = api.Node{Kind: api.GVal, At: d.put("val"), Name: d.lower()}
		d.put(n.Name)
		d.put(":")
		n.Kids = []api.Node{d.typ()}
	case 1:
		n.At = d.put("type")
		d.head(&n, api.GType)
		if d.chance(2) {
			d.put("=")
			n.Kids = append(n.Kids, d.typ())
		}
	case 2:
		return d.dec("data")
	case 3:
		return d.dec("exception")
	default:
		n = api.Node{Kind: api.GStruct, At: d.put("structure"), Name: d.upper()}
		d.put(n.Name)
		d.put(":")
		n.Kids = []api.Node{d.sig()}
	}
	return n
}

func (d *deriver) program() api.Node {
	var n api.Node
	for range d.Intn(4) {
		if d.Intn(6) == 0 {
			n.Kids = append(n.Kids, d.dec("signature"))
		} else {
			n.Kids = append(n.Kids, d.innerDec())
		}
	}
	return n
}

// derive gives a random text for a parser, with its tree.
func derive(p parser, seed int64) (string, api.Node) {
	d := &deriver{Rand: rand.New(rand.NewSource(seed))}
	d.size = 10 + d.Intn(250)
	var n api.Node
	switch p.name {
	case "exp":
		n = d.exp()
	case "pat":
		n = d.pat()
	case "type":
		n = d.typ()
	default:
		n = d.program()
	}
	return string(d.text), n
}

// eachDerived goes through random texts that can be read.
func eachDerived(t *testing.T, texts int, do func(p parser, text string, n api.Node)) {
	t.Helper()
	kinds, read := map[int]int{}, 0
	for i := range texts {
		p := parsers[i%len(parsers)]
		text, n := derive(p, int64(i))
		if len(text) <= api.MaxText {
			read++
			countKinds(n, kinds)
			do(p, text, n)
		}
	}
	if read < texts*9/10 || len(kinds) != len(kindNames) {
		t.Errorf("of %d texts %d were fit, with %d of %d kinds", texts, read, len(kinds), len(kindNames))
	}
}

func countKinds(n api.Node, kinds map[int]int) {
	kinds[n.Kind]++
	for _, k := range n.Kids {
		countKinds(k, kinds)
	}
}

func TestP2_1Derived(t *testing.T) {
	eachDerived(t, 8000, func(p parser, text string, n api.Node) {
		got, f := p.read(text)
		if f != (api.Fault{}) || show(got) != show(n) {
			t.Fatalf("%s %q: %v\n got %s\nwant %s", p.name, text, f, show(got), show(n))
		}
	})
}
