// Package layers has tests alone: it holds layers against one another, and against
// second, slow ways to what they answer, over random programs that have types.
package layers

import (
	"math/rand"
	"slices"
	"strconv"
	"strings"
)

// kind is a type: a word (int, list, ->, *, t1), and what it is made of.
type kind struct {
	word string
	of   []kind
}

func word(w string) kind             { return kind{word: w} }
func made(w string, of ...kind) kind { return kind{w, of} }

func (k kind) alike(o kind) bool {
	return k.word == o.word && slices.EqualFunc(k.of, o.of, kind.alike)
}

// text writes a type.
func (k kind) text() string {
	var l []string
	for _, o := range k.of {
		l = append(l, o.text())
	}
	if k.word == "->" || k.word == "*" {
		return "(" + strings.Join(l, " "+k.word+" ") + ")"
	}
	return strings.Join(append(l, k.word), " ")
}

// saidBy asks whether a type can be written with some datatypes.
func (k kind) saidBy(datas []string) bool {
	if k.word[0] == 't' && !slices.Contains(datas, k.word) {
		return false
	}
	return !slices.ContainsFunc(k.of, func(o kind) bool { return !o.saidBy(datas) })
}

// entry is a name that is there: a value, a constructor (perhaps with an argument), or a structure.
type entry struct {
	path           string
	kind           kind
	arg            *kind
	con, structure bool
	id             int // which declaration
}

func (e entry) saidBy(datas []string) bool {
	return e.kind.saidBy(datas) && (e.arg == nil || e.arg.saidBy(datas))
}

// datatype is a data's declaration.
type datatype struct {
	word, text string
	cons       []entry
}

// program writes random programs that have types.
type program struct {
	*rand.Rand
	there []entry
	ids   int        // of all entries
	count int        // of all datatypes and signatures
	datas []datatype // of the structure that is written
	words []string   // the datatypes that can be called by their names
}

// newProgram has names that are there from the beginning, and those of the prelude.
func newProgram(seed int64) *program {
	p := &program{Rand: rand.New(rand.NewSource(seed))}
	for _, x := range strings.Fields("true false") {
		p.add(entry{path: x, kind: word("bool"), con: true})
	}
	for _, x := range strings.Fields("Match Bind Overflow Div Bounds Size") {
		p.add(entry{path: x, kind: word("exn"), con: true})
	}
	number, text, truth, list := word("int"), word("string"), word("bool"), made("list", word("int"))
	for name, k := range map[string]kind{
		"not": made("->", truth, truth), "print": made("->", text, word("unit")),
		"str": made("->", number, text), "chr": made("->", number, text),
		"size": made("->", text, number), "sub": made("->", made("*", text, number), number),
		"part": made("->", made("*", text, number, number), text),
		"up":   made("->", number, list), "sum": made("->", list, number), "dup": made("->", number, text),
		"map": made("->", made("->", number, number), made("->", list, list)),
	} {
		p.add(entry{path: name, kind: k})
	}
	// What a seed says must not hang on the order of the map.
	slices.SortFunc(p.there, func(a, b entry) int { return strings.Compare(a.path, b.path) })
	return p
}

const prelude = `fun up n = if n <= 0 then [] else n :: up (n - 1)
fun sum l = case l of [] => 0 | x :: r => x + sum r end
fun map f l = case l of [] => [] | x :: r => f x :: map f r end
fun dup n = if n <= 0 then "" else "ab" ^ dup (n - 1)
`

// whole writes a program.
func (p *program) whole() string {
	var l []string
	for range 3 + p.Intn(8) {
		l = append(l, p.dec(2))
	}
	return prelude + strings.Join(l, " ")
}

// add declares names, which hide others.
func (p *program) add(list ...entry) {
	for _, e := range list {
		p.there = slices.DeleteFunc(slices.Clone(p.there), func(o entry) bool {
			return o.path == e.path && o.structure == e.structure || e.structure && strings.HasPrefix(o.path, e.path+".")
		})
		p.ids++
		e.id = p.ids
		p.there = append(p.there, e)
	}
}

// within forgets the names that are added by something.
func (p *program) within(thing func() string) string {
	before := p.there
	s := thing()
	p.there = before
	return s
}

func (p *program) pick(l ...string) string { return l[p.Intn(len(l))] }
func (p *program) lower() string           { return p.pick("a", "b", "c", "d", "e", "f", "g", "h") }
func (p *program) upper() string           { return p.pick("A", "B", "C", "D", "E", "F") }

// some is the entries that are so.
func (p *program) some(so func(entry) bool) []entry {
	return slices.DeleteFunc(slices.Clone(p.there), func(e entry) bool { return !so(e) })
}

// one is an entry that is so, more often a late one.
func (p *program) one(so func(entry) bool) (entry, bool) {
	l := p.some(so)
	if len(l) == 0 {
		return entry{}, false
	}
	return l[max(p.Intn(len(l)), p.Intn(len(l)))], true
}

// typ is a type; one that is compared has no functions and exceptions in it.
func (p *program) typ(depth int, compared bool) kind {
	sub := func() kind { return p.typ(depth-1, compared) }
	n := p.Intn(20)
	switch {
	case depth <= 0 || n < 8:
		if e, ok := p.one(func(e entry) bool { return e.con && e.kind.word[0] == 't' }); ok && p.Intn(3) == 0 {
			return e.kind
		}
		return word(p.pick("int", "int", "string", "bool", "unit"))
	case n < 11:
		return made("list", sub())
	case n < 14:
		return made("*", sub(), sub())
	case n < 15:
		return made("*", sub(), sub(), sub())
	case n < 16:
		return made("ref", sub())
	case n < 17:
		return made("array", sub())
	case compared:
		return word("int")
	case n < 18:
		return word("exn")
	}
	return made("->", sub(), sub())
}

// constructor is one of a type: none, if its argument would have to be of the same type.
func (p *program) constructor(k kind, short bool) (entry, bool) {
	return p.one(func(e entry) bool {
		return e.con && e.kind.alike(k) && !(short && e.arg != nil && strings.Contains(e.arg.text(), k.word))
	})
}

// function is a constructor that is a function of a type.
func (p *program) function(k kind) (entry, bool) {
	return p.one(func(e entry) bool { return e.con && e.arg != nil && e.arg.alike(k.of[0]) && e.kind.alike(k.of[1]) })
}

// leaf is a short expression of a type.
func (p *program) leaf(k kind) string {
	if e, ok := p.one(func(e entry) bool { return !e.structure && e.arg == nil && e.kind.alike(k) }); ok && p.Intn(4) > 0 {
		return e.path
	}
	switch k.word {
	case "int":
		return p.pick("0", "1", "1", "2", "2", "3", "(~1)", "7", "40", "1000000000")
	case "string":
		return p.pick(`""`, `"a"`, `"b"`, `"xyz"`, `"\000\n"`, `"`+strings.Repeat("q", 90)+`"`)
	case "bool":
		return p.pick("true", "false")
	case "unit":
		return "()"
	case "list":
		return "[]"
	case "*":
		return p.tuple(k, p.leaf)
	case "ref":
		return "(ref " + p.leaf(k.of[0]) + ")"
	case "array":
		return "(array (" + p.pick("0", "1", "2", "2", "3", "3") + ", " + p.leaf(k.of[0]) + "))"
	case "->":
		if e, ok := p.function(k); ok && p.Intn(2) == 0 {
			return e.path
		}
		return p.within(func() string { return "(fn " + p.pat(k.of[0], 1) + " => " + p.leaf(k.of[1]) + ")" })
	}
	e, ok := p.constructor(k, true)
	switch {
	case !ok:
		return "(raise Div)"
	case e.arg == nil:
		return e.path
	}
	return "(" + e.path + " " + p.leaf(*e.arg) + ")"
}

func (p *program) tuple(k kind, part func(kind) string) string {
	var l []string
	for _, o := range k.of {
		l = append(l, part(o))
	}
	return "(" + strings.Join(l, ", ") + ")"
}

// list is one of a few elements.
func (p *program) list(k kind, part func(kind) string) string {
	var l []string
	for range 1 + p.Intn(3) {
		l = append(l, part(k.of[0]))
	}
	return "[" + strings.Join(l, ", ") + "]"
}

// exp is an expression of a type.
func (p *program) exp(k kind, depth int) string {
	if depth <= 0 {
		return p.leaf(k)
	}
	sub := func(k kind) string { return p.exp(k, depth-1) }
	switch p.Intn(18) {
	case 0:
		return "(if " + sub(word("bool")) + " then " + sub(k) + " else " + sub(k) + ")"
	case 1, 2:
		from := p.typ(2, false)
		return "case " + sub(from) + " of " + p.rules(from, k, depth-1) + " end"
	case 3:
		return "try " + sub(k) + " with " + p.rules(word("exn"), k, depth-1) + " end"
	case 4, 5:
		return p.within(func() string {
			s := "let "
			for range p.Intn(4) {
				s += p.localDec(depth-1) + " "
			}
			return s + "in " + sub(k) + " end"
		})
	case 6:
		return "(" + p.effect(depth-1) + "; " + sub(k) + ")"
	case 7:
		from := p.typ(1, false)
		if e, ok := p.constructor(k, false); ok && e.arg != nil {
			from = *e.arg
		}
		return "(" + sub(made("->", from, k)) + " " + sub(from) + ")"
	case 8:
		return p.pick("(raise "+sub(word("exn"))+")", "(!"+sub(made("ref", k))+")", "(!"+sub(made("ref", k))+")")
	case 9:
		if k.saidBy(p.words) {
			return "(" + sub(k) + " : " + k.text() + ")"
		}
		return "(at (" + sub(made("array", k)) + ", " + p.index(depth-1) + "))"
	case 10, 11, 12, 13:
		if s, ok := p.call(k, depth); ok {
			return s
		}
	}
	return p.make(k, depth)
}

// call is an application of a function that is there to what it takes until it gives a type.
func (p *program) call(k kind, depth int) (string, bool) {
	gives := func(f kind) bool { return f.word == "->" && f.of[1].alike(k) }
	e, ok := p.one(func(e entry) bool {
		return !e.con && (gives(e.kind) || e.kind.word == "->" && gives(e.kind.of[1]))
	})
	if !ok {
		return "", false
	}
	s := e.path + " " + p.exp(e.kind.of[0], depth-1)
	if !gives(e.kind) {
		s += " " + p.exp(e.kind.of[1].of[0], depth-1)
	}
	return "(" + s + ")", true
}

// index is a number, mostly a small one.
func (p *program) index(depth int) string { return p.pick("0", "0", "1", p.exp(word("int"), depth)) }

// effect is an expression of unit.
func (p *program) effect(depth int) string {
	k := p.typ(1, false)
	switch p.Intn(3) {
	case 0:
		return "(" + p.exp(made("ref", k), depth) + " := " + p.exp(k, depth) + ")"
	case 1:
		return "(put (" + p.exp(made("array", k), depth) + ", " + p.index(depth) + ", " + p.exp(k, depth) + "))"
	}
	return "(print " + p.exp(word("string"), depth) + ")"
}

// make is an expression that makes a value of a type.
func (p *program) make(k kind, depth int) string {
	sub := func(k kind) string { return p.exp(k, depth-1) }
	switch k.word {
	case "int":
		if p.Intn(6) == 0 {
			return "(length " + sub(made("array", p.typ(1, false))) + ")"
		}
		return "(" + sub(k) + p.pick(" + ", " + ", " - ", " * ", " / ", " % ") + sub(k) + ")"
	case "string":
		return p.pick("("+sub(k)+" ^ "+sub(k)+")", "(str "+sub(word("int"))+")")
	case "bool":
		c, n := p.typ(2, true), word("int")
		return p.pick("("+sub(k)+p.pick(" andalso ", " orelse ")+sub(k)+")", "("+sub(n)+p.pick(" < ", " <= ", " > ", " >= ")+sub(n)+")", "("+sub(c)+p.pick(" = ", " <> ")+sub(c)+")")
	case "unit":
		return p.effect(depth - 1)
	case "*":
		return p.tuple(k, sub)
	case "list":
		if p.Intn(2) == 0 {
			return "(" + sub(k.of[0]) + " :: " + sub(k) + ")"
		}
		return p.list(k, sub)
	case "ref":
		return "(ref " + sub(k.of[0]) + ")"
	case "array":
		return "(array (" + sub(word("int")) + " % 5, " + sub(k.of[0]) + "))"
	case "->":
		return p.within(func() string { return "(fn " + p.pat(k.of[0], 2) + " => " + sub(k.of[1]) + ")" })
	}
	if e, ok := p.constructor(k, false); ok && e.arg != nil {
		return "(" + e.path + " " + sub(*e.arg) + ")"
	}
	return p.leaf(k)
}

func (p *program) rules(from, to kind, depth int) string {
	var l []string
	for range 1 + p.Intn(3) {
		l = append(l, p.within(func() string { return p.pat(from, 2) + " => " + p.exp(to, depth) }))
	}
	return strings.Join(l, " | ")
}

// pat is a pattern of a type; its names are there from now on.
func (p *program) pat(k kind, depth int) string {
	var names []entry
	s := p.patIn(k, depth, &names)
	p.add(names...)
	return s
}

// name adds a name to those of a pattern, if it is a new one there.
func (p *program) name(k kind, names *[]entry) string {
	x := p.lower()
	if slices.ContainsFunc(*names, func(e entry) bool { return e.path == x }) {
		return "_"
	}
	*names = append(*names, entry{path: x, kind: k})
	return x
}

func (p *program) patIn(k kind, depth int, names *[]entry) string {
	sub := func(k kind) string { return p.patIn(k, depth-1, names) }
	switch n := p.Intn(9); {
	case n == 0:
		return "_"
	case n < 4 || depth <= 0:
		return p.name(k, names)
	case n == 4:
		if x := p.name(k, names); x != "_" {
			return "(" + x + " as " + sub(k) + ")"
		}
	case n == 5 && k.saidBy(p.words):
		return "(" + sub(k) + " : " + k.text() + ")"
	}
	switch k.word {
	case "int":
		return p.pick("0", "1", "~1", "3")
	case "string":
		return p.pick(`""`, `"a"`)
	case "unit":
		return "()"
	case "*":
		return p.tuple(k, sub)
	case "list":
		switch p.Intn(3) {
		case 0:
			return "[]"
		case 1:
			return p.list(k, sub)
		}
		return "(" + sub(k.of[0]) + " :: " + sub(k) + ")"
	}
	e, ok := p.constructor(k, false)
	switch {
	case !ok:
		return p.name(k, names)
	case e.arg == nil:
		return e.path
	}
	return "(" + e.path + " " + sub(*e.arg) + ")"
}

// localDec is a declaration that may stand in a let.
func (p *program) localDec(depth int) string {
	switch p.Intn(7) {
	case 0, 1:
		return p.fun(depth)
	case 2:
		return p.exception()
	case 3:
		if e, ok := p.one(func(e entry) bool { return e.structure }); ok {
			return p.open(e.path)
		}
	}
	k := p.typ(2, false)
	e := p.exp(k, depth)
	return "val " + p.pat(k, p.Intn(8)/6) + " = " + e
}

func (p *program) exception() string {
	x := entry{path: p.upper(), kind: word("exn"), con: true}
	text := "exception " + x.path
	if k := p.typ(1, false); p.Intn(2) == 0 && k.saidBy(p.words) {
		x.arg = &k
		text += " of " + k.text()
	}
	p.add(x)
	return text
}

// fun declares functions that know one another.
func (p *program) fun(depth int) string {
	var list []entry
	for range 1 + p.Intn(2) {
		k := made("->", p.typ(1, false), p.typ(1, false))
		if p.Intn(2) == 0 {
			k = made("->", p.typ(1, false), k)
		}
		p.name(k, &list)
	}
	p.add(list...)
	var l []string
	for _, f := range list {
		l = append(l, p.within(func() string { return f.path + " " + p.body(f.kind, depth) }))
	}
	return "fun " + strings.Join(l, " and ")
}

// body is the patterns of a function, one or two, and what stands behind them.
func (p *program) body(k kind, depth int) string {
	var names []entry
	to := k.of[1]
	text := p.patIn(k.of[0], 1, &names)
	if to.word == "->" && p.Intn(2) == 0 {
		text += " " + p.patIn(to.of[0], 1, &names)
		to = to.of[1]
	}
	p.add(names...)
	return text + " = " + p.exp(to, depth)
}

func (p *program) data() string {
	p.count++
	d := datatype{word: "t" + strconv.Itoa(p.count)}
	var l []string
	for range 1 + p.Intn(3) {
		c := entry{path: p.upper(), kind: word(d.word), con: true}
		if slices.ContainsFunc(d.cons, func(e entry) bool { return e.path == c.path }) {
			continue
		}
		text := c.path
		if arg := p.typ(2, true); p.Intn(2) == 0 && arg.saidBy(p.words) {
			if p.Intn(3) == 0 {
				arg = made("*", c.kind, arg)
			}
			c.arg = &arg
			text += " of " + arg.text()
		}
		d.cons = append(d.cons, c)
		l = append(l, text)
	}
	d.text = "data " + d.word + " = " + strings.Join(l, " | ")
	p.add(d.cons...)
	p.datas = append(p.datas, d)
	p.words = append(slices.Clip(p.words), d.word)
	return d.text
}

func (p *program) dec(depth int) string {
	switch n := p.Intn(10); {
	case n == 0:
		return p.data()
	case n < 4 && depth > 0:
		return p.structure(depth)
	case n == 4:
		if e, ok := p.one(func(e entry) bool { return e.structure }); ok {
			return p.rename(e)
		}
	}
	return p.localDec(2)
}
