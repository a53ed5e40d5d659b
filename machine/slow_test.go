package machine

import (
	"strconv"
	"strings"

	"mlcore/api"
	"mlcore/code"
)

// slow is a machine by another way: its things are those of Go itself, an instruction is done on a copy, and what ends it
// or is raised is a panic.
type slow struct {
	code  api.Code
	cells int
	need  int // the most cells that were there at once, where a thing was made
	calls []slowCall
	saved []slowCall // as they were ahead of the instruction
	tell  api.Outcome
}

type slowCall struct {
	number, at    int
	function, arg any
	slots, values []any
	tries         []try
}

// item is a thing; a value is an int or an *item. A text's bytes are beside its fields.
type item struct {
	kind, tag int
	fields    []any
	text      string
}

type ended int

type thrown struct{ block *item }

func newSlow(c api.Code, cells int) *slow {
	return &slow{code: c, cells: cells, calls: []slowCall{{function: 0, arg: 0, slots: zeros(c.Funs[0].Slots)}}}
}

func zeros(n int) []any {
	list := make([]any, n)
	for i := range list {
		list[i] = 0
	}
	return list
}

func copies(list []slowCall) []slowCall {
	all := append([]slowCall(nil), list...)
	for i, c := range all {
		all[i].slots, all[i].values, all[i].tries = append([]any(nil), c.slots...), append([]any(nil), c.values...), append([]try(nil), c.tries...)
	}
	return all
}

// reached is how many cells the things take that calls reach.
func reached(list []slowCall) int {
	seen, cells := map[*item]bool{}, 0
	var work []any
	for _, c := range list {
		work = append(append(append(work, c.function, c.arg), c.slots...), c.values...)
	}
	for len(work) > 0 {
		v := work[len(work)-1]
		work = work[:len(work)-1]
		if x, ok := v.(*item); ok && !seen[x] {
			seen[x] = true
			cells += 1 + len(x.fields)
			work = append(work, x.fields...)
		}
	}
	return cells
}

func (s *slow) run(n int) (did int) {
	for did < n && s.tell.Kind == api.Going && s.step() {
		did++
	}
	return did
}

func (s *slow) step() (done bool) {
	s.saved = copies(s.calls)
	defer func() {
		switch x := recover().(type) {
		case nil:
			done = true
		case thrown:
			s.throw(x.block)
			done = true
		case ended:
			s.calls, s.tell.Kind = s.saved, int(x)
		default:
			panic(x)
		}
		if done {
			s.tell.Steps++
		}
	}()
	c := s.in()
	x := s.code.Funs[c.number].Ins[c.at]
	c.at++
	s.do(x, c)
	return
}

func (s *slow) in() *slowCall { return &s.calls[len(s.calls)-1] }

func (s *slow) must(ok bool) {
	if !ok {
		panic(ended(api.Wrong))
	}
}

func (s *slow) pop() any {
	c := s.in()
	s.must(len(c.values) > 0)
	v := c.values[len(c.values)-1]
	c.values = c.values[:len(c.values)-1]
	return v
}

func (s *slow) pops(n int) []any {
	list := make([]any, n)
	for i := range list {
		list[n-1-i] = s.pop()
	}
	return list
}

func (s *slow) push(v any) { s.in().values = append(s.in().values, v) }

func (s *slow) make(kind, tag int, fields ...any) *item {
	n := reached(s.saved) + 1 + len(fields)
	if n > s.cells {
		panic(ended(api.Memory))
	}
	s.need = max(s.need, n)
	return &item{kind: kind, tag: tag, fields: fields}
}

func (s *slow) text(b string) *item {
	x := s.make(api.ObText, len(b), make([]any, (len(b)+7)/8)...)
	for i := range x.fields {
		n, _ := strconv.ParseUint(hex(b[8*i:]), 16, 64)
		x.fields[i] = int(n)
	}
	x.text = b
	return x
}

// hex is the first 8 bytes of a text, in digits.
func hex(b string) string {
	const digits = "0123456789abcdef"
	s := ""
	for _, c := range []byte((b + strings.Repeat("\x00", 8))[:8]) {
		s += string(digits[c/16]) + string(digits[c%16])
	}
	return s
}

func (s *slow) standard(n int) { panic(thrown{s.make(api.ObBlock, 0, -1-n)}) }

const (
	slowOverflow = 2
	slowDiv      = 3
	slowBounds   = 4
	slowSize     = 5
)

func (s *slow) throw(block *item) {
	for len(s.calls) > 0 {
		c := s.in()
		if n := len(c.tries); n > 0 {
			t := c.tries[n-1]
			c.tries = c.tries[:n-1]
			for len(c.values) > t.values {
				s.pop()
			}
			c.at = t.at
			s.push(block)
			return
		}
		s.calls = s.calls[:len(s.calls)-1]
	}
	s.tell.Kind = api.Raised
	switch x := block.fields[0].(type) {
	case int:
		s.tell.Name = code.Exceptions()[-1-x]
	case *item:
		s.tell.Name = s.code.Texts[x.fields[0].(int)]
	}
}

func (s *slow) number(v any) int {
	n, ok := v.(int)
	s.must(ok)
	return n
}

// item asks for a thing of a kind with a tag, or with any (-1).
func (s *slow) item(v any, kind, tag int) *item {
	x, ok := v.(*item)
	s.must(ok && x.kind == kind && (tag == -1 || x.tag == tag))
	return x
}

func bit(is bool) int {
	if is {
		return 1
	}
	return 0
}

func (s *slow) do(x api.Ins, c *slowCall) {
	switch x.Op {
	case api.InInt:
		s.push(x.A)
	case api.InStr:
		s.push(s.text(s.code.Texts[x.A]))
	case api.InBase:
		s.push(s.make(api.ObFun, 60000+x.A))
	case api.InArg:
		s.push(c.arg)
	case api.InFree:
		s.push(c.function.(*item).fields[x.A])
	case api.InSlot:
		s.push(c.slots[x.A])
	case api.InStore:
		c.slots[x.A] = s.pop()
	case api.InDrop:
		s.pop()
	case api.InBlock:
		s.push(s.make(api.ObBlock, x.A, s.pops(x.B)...))
	case api.InMake:
		s.push(s.make(api.ObFun, x.A, s.pops(s.code.Funs[x.A].Free)...))
	case api.InExn:
		s.push(s.make(api.ObExn, x.B, x.A))
	case api.InStd:
		s.push(-1 - x.A)
	case api.InField:
		b := s.item(s.pop(), api.ObBlock, -1)
		s.must(x.A < len(b.fields))
		s.push(b.fields[x.A])
	case api.InIsInt:
		s.push(bit(s.pop() == any(x.A)))
	case api.InIsBlock:
		b, ok := s.pop().(*item)
		s.push(bit(ok && b.kind == api.ObBlock && b.tag == x.A))
	case api.InSame:
		l := s.pops(2)
		s.push(bit(l[0] == l[1]))
	case api.InSign:
		s.push(s.sign(code.Signs()[x.A]))
	case api.InPatch:
		v, f := s.pop(), s.item(c.slots[x.A], api.ObFun, -1)
		s.must(x.B < len(f.fields))
		f.fields[x.B] = v
	default:
		s.flow(x, c)
	}
}

func (s *slow) flow(x api.Ins, c *slowCall) {
	switch x.Op {
	case api.InJump:
		c.at = x.A
	case api.InUnless:
		if s.number(s.pop()) != 1 {
			c.at = x.A
		}
	case api.InTry:
		c.tries = append(c.tries, try{x.A, len(c.values)})
	case api.InEnd:
		c.tries = c.tries[:len(c.tries)-1]
	case api.InReturn:
		s.finish(s.pop())
	case api.InRaise:
		b := s.item(s.pop(), api.ObBlock, -1)
		switch e := b.fields[0].(type) {
		case int:
			s.must(e >= -6 && e <= -1)
		case *item:
			s.must(e.kind == api.ObExn)
		}
		panic(thrown{b})
	case api.InCall, api.InTail:
		l := s.pops(2)
		f := s.item(l[0], api.ObFun, -1)
		tail := x.Op == api.InTail
		switch {
		case f.tag >= 60000 && tail:
			s.finish(s.base(code.Bases()[f.tag-60000], l[1]))
			return
		case f.tag >= 60000:
			s.push(s.base(code.Bases()[f.tag-60000], l[1]))
			return
		case tail:
			s.calls = s.calls[:len(s.calls)-1]
		case len(s.calls) >= api.MaxCalls:
			panic(ended(api.Memory))
		}
		s.calls = append(s.calls, slowCall{number: f.tag, function: f, arg: l[1], slots: zeros(s.code.Funs[f.tag].Slots)})
	}
}

func (s *slow) finish(v any) {
	s.calls = s.calls[:len(s.calls)-1]
	if len(s.calls) == 0 {
		s.tell.Kind = api.Done
		return
	}
	s.push(v)
}

func (s *slow) sign(name string) any {
	b := s.pop()
	switch name {
	case "~":
		return -s.number(b)
	case "!":
		return s.item(b, api.ObCells, 0).fields[0]
	}
	a := s.pop()
	switch name {
	case ":=":
		s.item(a, api.ObCells, 0).fields[0] = b
		return 0
	case "^":
		t := s.item(a, api.ObText, -1).text + s.item(b, api.ObText, -1).text
		if len(t) > api.MaxStr {
			s.standard(slowSize)
		}
		return s.text(t)
	case "=", "<>":
		pairs := 0
		is := s.alike(a, b, &pairs)
		return bit(is == (name == "="))
	}
	x, y := s.number(a), s.number(b)
	n := 0
	switch name {
	case "+":
		n = x + y
	case "-":
		n = x - y
	case "*":
		n = x * y
	case "/", "%":
		if y == 0 {
			s.standard(slowDiv)
		}
		n = map[string]int{"/": x / y, "%": x - x/y*y}[name]
	default:
		return bit(map[string]bool{"<": x < y, "<=": x <= y, ">": x > y, ">=": x >= y}[name])
	}
	if n > api.MaxInt || n < -api.MaxInt {
		s.standard(slowOverflow)
	}
	return n
}

func (s *slow) alike(a, b any, pairs *int) bool {
	if *pairs++; *pairs > api.MaxSame {
		s.standard(slowSize)
	}
	x, isX := a.(*item)
	y, isY := b.(*item)
	if !isX || !isY || x.kind != y.kind || x.kind != api.ObText && x.kind != api.ObBlock {
		return a == b
	}
	if x.tag != y.tag || len(x.fields) != len(y.fields) || x.text != y.text {
		return false
	}
	for i := range x.fields {
		if x.kind == api.ObBlock && !s.alike(x.fields[i], y.fields[i], pairs) {
			return false
		}
	}
	return true
}

func (s *slow) base(name string, v any) any {
	switch name {
	case "not":
		return bit(s.number(v) == 0)
	case "print":
		t := s.item(v, api.ObText, -1).text
		if len(s.tell.Out+t) > api.MaxOut {
			s.standard(slowSize)
		}
		s.tell.Out += t
		return 0
	case "str":
		return s.text(strings.ReplaceAll(strconv.Itoa(s.number(v)), "-", "~"))
	case "size":
		return s.item(v, api.ObText, -1).tag
	case "chr":
		n := s.number(v)
		if n != n&255 {
			s.standard(slowBounds)
		}
		return s.text(string([]byte{byte(n)}))
	case "ref":
		return s.make(api.ObCells, 0, v)
	case "length":
		return len(s.item(v, api.ObCells, 1).fields)
	}
	b := s.item(v, api.ObBlock, -1)
	s.must(len(b.fields) == map[string]int{"sub": 2, "part": 3, "array": 2, "at": 2, "put": 3}[name])
	if name == "array" {
		n := s.number(b.fields[0])
		if n < 0 || n > api.MaxArray {
			s.standard(slowSize)
		}
		fields := make([]any, n)
		for i := range fields {
			fields[i] = b.fields[1]
		}
		return s.make(api.ObCells, 1, fields...)
	}
	return s.indexed(name, b)
}

func (s *slow) indexed(name string, b *item) any {
	i := s.number(b.fields[1])
	if name == "sub" || name == "part" {
		t, n := s.item(b.fields[0], api.ObText, -1).text, 1
		if name == "part" {
			n = s.number(b.fields[2])
		}
		if i < 0 || n < 0 || i+n > len(t) {
			s.standard(slowBounds)
		}
		if name == "sub" {
			return int(t[i])
		}
		return s.text(t[i : i+n])
	}
	a := s.item(b.fields[0], api.ObCells, 1)
	if i < 0 || i >= len(a.fields) {
		s.standard(slowBounds)
	}
	if name == "put" {
		a.fields[i] = b.fields[2]
		return 0
	}
	return a.fields[i]
}
