package layers

import (
	"slices"
	"strconv"
	"strings"

	"mlcore/api"
)

// A second meaning, which follows the words of the chapter: an expression is
// evaluated by a call, an exception is a panic, structures are values that are made
// when their declarations are come to, open and patterns give values their names
// then, and names stand in a list that is searched from its end.

type slow struct {
	left, steps int
	waits, most int // how much waits for one another (P15.6), now and at most
	out         string
	match, bind slowExn
}

type (
	slowTuple []any
	slowCon   struct {
		name   string
		number int // of a term's value, and of a truth value
		arg    any // nil: none
	}
	slowCell  struct{ cells []any }
	slowFn    func(any) any
	slowExnID struct {
		name string
	}
	slowExn struct {
		by  *slowExnID
		arg any
	}
)

type slowEnd struct{}

// slowEntry is a name: a value (and if it is a constructor, how it is told apart), a structure, or a signature.
type slowEntry struct {
	sort, name string
	value      any
	con        any       // a constructor's name, or an exception's *slowExnID
	in         slowNames // a structure's names, or those that were there at a signature
	sig        api.Node
}

type slowNames []slowEntry

func (e slowNames) also(more ...slowEntry) slowNames { return append(slices.Clip(e), more...) }

func (e slowNames) with(name string, v any) slowNames {
	return e.also(slowEntry{sort: "value", name: name, value: v})
}

func (e slowNames) find(sort, path string) slowEntry {
	if first, rest, isPath := strings.Cut(path, "."); isPath {
		return e.find("structure", first).in.find(sort, rest)
	}
	for _, x := range slices.Backward(e) {
		if x.sort == sort && x.name == path {
			return x
		}
	}
	panic("no " + sort + " " + path)
}

// slowRun runs a program that has types.
func slowRun(n api.Node, steps int) api.Outcome {
	o, _ := waitedRun(n, steps)
	return o
}

// waitedRun also tells how much waited for one another at most.
func waitedRun(n api.Node, steps int) (o api.Outcome, most int) {
	s := &slow{left: steps}
	defer func() { o, most = s.told(recover()), s.most }()
	s.decs(n.Kids, s.beginning())
	return o, most
}

// told is the outcome of a run that has ended with a panic, or without one.
func (s *slow) told(end any) api.Outcome {
	o := api.Outcome{Out: s.out, Steps: s.steps}
	switch x := end.(type) {
	case nil:
		o.Kind = api.Done
	case slowEnd:
		o.Kind = api.Going
	case slowExn:
		o.Kind, o.Name = api.Raised, x.by.name
	default:
		panic(x)
	}
	return o
}

func (s *slow) step() {
	if s.left == 0 {
		panic(slowEnd{})
	}
	s.left--
	s.steps++
}

func slowTruth(b bool) any {
	if b {
		return slowCon{name: "true", number: 1}
	}
	return slowCon{name: "false", number: 0}
}

func (s *slow) beginning() slowNames {
	var e slowNames
	raise := map[string]func(){}
	for _, name := range []string{"Match", "Bind", "Overflow", "Div", "Bounds", "Size"} {
		x := slowExn{by: &slowExnID{name}}
		raise[name] = func() { panic(x) }
		e = e.also(slowEntry{sort: "value", name: name, value: x, con: x.by})
	}
	s.match, s.bind = e[0].value.(slowExn), e[1].value.(slowExn)
	unless := func(ok bool, name string) {
		if !ok {
			raise[name]()
		}
	}
	e = e.also(slowEntry{sort: "value", name: "true", value: slowTruth(true), con: "true"}, slowEntry{sort: "value", name: "false", value: slowTruth(false), con: "false"})
	for name, f := range map[string]slowFn{
		"not": func(v any) any { return slowTruth(v.(slowCon).name == "false") },
		"print": func(v any) any {
			unless(len(s.out)+len(v.(string)) <= 2000, "Size")
			s.out += v.(string)
			return slowTuple{}
		},
		"str": func(v any) any {
			if n := v.(int); n < 0 {
				return "~" + strconv.Itoa(-n)
			}
			return strconv.Itoa(v.(int))
		},
		"size": func(v any) any { return len(v.(string)) },
		"sub": func(v any) any {
			l, i := v.(slowTuple)[0].(string), v.(slowTuple)[1].(int)
			unless(0 <= i && i < len(l), "Bounds")
			return int([]byte(l)[i])
		},
		"part": func(v any) any {
			l, i, n := v.(slowTuple)[0].(string), v.(slowTuple)[1].(int), v.(slowTuple)[2].(int)
			unless(0 <= i && 0 <= n && i+n <= len(l), "Bounds")
			return l[i:][:n]
		},
		"chr": func(v any) any {
			unless(0 <= v.(int) && v.(int) <= 255, "Bounds")
			return string([]byte{byte(v.(int))})
		},
		"ref": func(v any) any { return &slowCell{[]any{v}} },
		"array": func(v any) any {
			n, a := v.(slowTuple)[0].(int), &slowCell{}
			unless(0 <= n && n <= 100, "Size")
			for range n {
				a.cells = append(a.cells, v.(slowTuple)[1])
			}
			return a
		},
		"length": func(v any) any { return len(v.(*slowCell).cells) },
		"at": func(v any) any {
			a, i := v.(slowTuple)[0].(*slowCell), v.(slowTuple)[1].(int)
			unless(0 <= i && i < len(a.cells), "Bounds")
			return a.cells[i]
		},
		"put": func(v any) any {
			a, i := v.(slowTuple)[0].(*slowCell), v.(slowTuple)[1].(int)
			unless(0 <= i && i < len(a.cells), "Bounds")
			a.cells[i] = v.(slowTuple)[2]
			return slowTuple{}
		},
	} {
		e = e.with(name, f)
	}
	for name, f := range s.operators(unless) {
		e = e.also(slowEntry{sort: "operator", name: name, value: f})
	}
	return e
}

func (s *slow) operators(unless func(bool, string)) map[string]slowFn {
	number := func(f func(a, b int) int) slowFn {
		return func(v any) any {
			n := f(v.(slowTuple)[0].(int), v.(slowTuple)[1].(int))
			unless(-1000000000 <= n && n <= 1000000000, "Overflow")
			return n
		}
	}
	order := func(f func(a, b int) bool) slowFn {
		return func(v any) any { return slowTruth(f(v.(slowTuple)[0].(int), v.(slowTuple)[1].(int))) }
	}
	magnitude := func(a int) int { return max(a, -a) }
	sign := func(a int) int { return max(-1, min(1, a)) }
	quotient := func(a, b int) int {
		unless(b != 0, "Div")
		return sign(a) * sign(b) * (magnitude(a) / magnitude(b))
	}
	compare := func(v any) bool {
		pairs := 0
		var differ func(a, b any) bool
		differ = func(a, b any) bool {
			pairs++
			unless(pairs <= 1000, "Size")
			switch a := a.(type) {
			case slowTuple:
				for i := range a {
					if differ(a[i], b.(slowTuple)[i]) {
						return true
					}
				}
				return false
			case slowCon:
				b := b.(slowCon)
				return a.name != b.name || a.arg != nil && differ(a.arg, b.arg)
			}
			return a != b
		}
		return differ(v.(slowTuple)[0], v.(slowTuple)[1])
	}
	return map[string]slowFn{
		"+":  number(func(a, b int) int { return a + b }),
		"-":  number(func(a, b int) int { return a - b }),
		"*":  number(func(a, b int) int { return a * b }),
		"/":  number(quotient),
		"%":  number(func(a, b int) int { return a - quotient(a, b)*b }),
		"<":  order(func(a, b int) bool { return a < b }),
		"<=": order(func(a, b int) bool { return a < b+1 }),
		">":  order(func(a, b int) bool { return b < a }),
		">=": order(func(a, b int) bool { return b < a+1 }),
		"~":  func(v any) any { return 0 - v.(slowTuple)[0].(int) },
		"^": func(v any) any {
			l := v.(slowTuple)[0].(string) + v.(slowTuple)[1].(string)
			unless(len(l) <= 200, "Size")
			return l
		},
		"=":  func(v any) any { return slowTruth(!compare(v)) },
		"<>": func(v any) any { return slowTruth(compare(v)) },
		"::": func(v any) any { return slowCon{name: "::", arg: v} },
		"!":  func(v any) any { return v.(slowTuple)[0].(*slowCell).cells[0] },
		":=": func(v any) any {
			v.(slowTuple)[0].(*slowCell).cells[0] = v.(slowTuple)[1]
			return slowTuple{}
		},
	}
}

func (s *slow) exps(list []api.Node, e slowNames) slowTuple {
	all := slowTuple{}
	for _, n := range list {
		all = append(all, s.kid(n, e))
	}
	return all
}

// kid is the value of an expression that something waits for.
func (s *slow) kid(n api.Node, e slowNames) (v any) {
	s.waiting(func() { v = s.exp(n, e) })
	return v
}

func (s *slow) waiting(thing func()) {
	s.waits++
	s.most = max(s.most, s.waits)
	thing()
	s.waits--
}

func slowIsTrue(v any) bool { return v.(slowCon).name == "true" }

func (s *slow) exp(n api.Node, e slowNames) any {
	s.step()
	switch n.Kind {
	case api.EInt:
		return n.N
	case api.EStr:
		return n.Name
	case api.EVar, api.ECon:
		return e.find("value", n.Name).value
	case api.ETuple:
		return s.exps(n.Kids, e)
	case api.EList:
		l := s.exps(n.Kids, e)
		var list any = slowCon{name: "[]"}
		for i := len(l) - 1; i >= 0; i-- {
			list = slowCon{name: "::", arg: slowTuple{l[i], list}}
		}
		return list
	case api.EFn:
		return s.function(n.Kids[:1], n.Kids[1], e)
	case api.EApp:
		f := s.kid(n.Kids[0], e).(slowFn)
		return f(s.kid(n.Kids[1], e))
	case api.EIf:
		if slowIsTrue(s.kid(n.Kids[0], e)) {
			return s.exp(n.Kids[1], e)
		}
		return s.exp(n.Kids[2], e)
	case api.EAnd:
		return slowTruth(slowIsTrue(s.kid(n.Kids[0], e)) && slowIsTrue(s.exp(n.Kids[1], e)))
	case api.EOr:
		return slowTruth(slowIsTrue(s.kid(n.Kids[0], e)) || slowIsTrue(s.exp(n.Kids[1], e)))
	case api.ECase:
		return s.rules(s.kid(n.Kids[0], e), n.Kids[1:], e, s.match)
	case api.ETry:
		v, x := s.try(func() any { return s.kid(n.Kids[0], e) })
		if x == nil {
			return v
		}
		return s.rules(*x, n.Kids[1:], e, *x)
	case api.ERaise:
		panic(s.kid(n.Kids[0], e))
	case api.ELet:
		e, _ = s.decs(n.Kids[:n.N], e)
		return s.exp(n.Kids[n.N], e)
	case api.ESeq:
		// The last kid is not waited for: so more programs are held to P15.6.
		last := len(n.Kids) - 1
		s.exps(n.Kids[:last], e)
		return s.exp(n.Kids[last], e)
	case api.EOp:
		return e.find("operator", n.Name).value.(slowFn)(s.exps(n.Kids, e))
	case api.EHas:
		return s.exp(n.Kids[0], e)
	}
	panic("no expression")
}

func (s *slow) try(thing func() any) (v any, raised *slowExn) {
	waits := s.waits
	defer func() {
		switch x := recover().(type) {
		case nil:
		case slowExn:
			raised, s.waits = &x, waits
		default:
			panic(x)
		}
	}()
	return thing(), nil
}

func (s *slow) rules(v any, list []api.Node, e slowNames, otherwise slowExn) any {
	for _, r := range list {
		if inner, ok := s.pat(r.Kids[0], v, e, e); ok {
			return s.exp(r.Kids[1], inner)
		}
	}
	panic(otherwise)
}

func (s *slow) function(pats []api.Node, body api.Node, e slowNames) slowFn {
	return func(v any) any {
		inner, ok := s.pat(pats[0], v, e, e)
		switch {
		case !ok:
			panic(s.match)
		case len(pats) == 1:
			return s.exp(body, inner)
		}
		s.step()
		return s.function(pats[1:], body, inner)
	}
}

// pat gives names to what a pattern matches, on top of others.
func (s *slow) pat(n api.Node, v any, there, e slowNames) (slowNames, bool) {
	switch n.Kind {
	case api.PAny:
		return e, true
	case api.PVar:
		return e.with(n.Name, v), true
	case api.PInt:
		return e, v == n.N
	case api.PStr:
		return e, v == n.Name
	case api.PAs:
		return s.pat(n.Kids[0], v, there, e.with(n.Name, v))
	case api.PHas:
		return s.pat(n.Kids[0], v, there, e)
	case api.PTuple:
		return s.pats(n.Kids, v.(slowTuple), there, e)
	case api.PCons:
		if v.(slowCon).arg == nil {
			return e, false
		}
		return s.pats(n.Kids, v.(slowCon).arg.(slowTuple), there, e)
	case api.PList:
		var l slowTuple
		for ; v.(slowCon).arg != nil; v = v.(slowCon).arg.(slowTuple)[1] {
			l = append(l, v.(slowCon).arg.(slowTuple)[0])
		}
		if len(l) != len(n.Kids) {
			return e, false
		}
		return s.pats(n.Kids, l, there, e)
	case api.PCon:
		var by, arg any
		switch v := v.(type) {
		case slowCon:
			by, arg = v.name, v.arg
		case slowExn:
			by, arg = v.by, v.arg
		}
		if by != there.find("value", n.Name).con {
			return e, false
		}
		if len(n.Kids) > 0 {
			return s.pat(n.Kids[0], arg, there, e)
		}
		return e, true
	}
	panic("no pattern")
}

func (s *slow) pats(list []api.Node, l slowTuple, there, e slowNames) (slowNames, bool) {
	for i, n := range list {
		inner, ok := s.pat(n, l[i], there, e)
		if !ok {
			return e, false
		}
		e = inner
	}
	return e, true
}

// decs is the names with those of declarations, and these by themselves.
func (s *slow) decs(list []api.Node, e slowNames) (all, own slowNames) {
	first := len(e)
	for _, n := range list {
		e = s.dec(n, e)
	}
	return e, e[first:]
}

func (s *slow) dec(n api.Node, e slowNames) slowNames {
	switch n.Kind {
	case api.DVal:
		inner, ok := s.pat(n.Kids[0], s.kid(n.Kids[1], e), e, e)
		if !ok {
			panic(s.bind)
		}
		return inner
	case api.DFun:
		inner := slices.Clip(e)
		for _, b := range n.Kids {
			f := func(v any) any {
				last := len(b.Kids) - 1
				return s.function(b.Kids[:last], b.Kids[last], inner)(v)
			}
			inner = inner.with(b.Name, slowFn(f))
		}
		return inner
	case api.DData:
		return e.also(slowData(n)...)
	case api.DExn:
		by := &slowExnID{n.Name}
		if len(n.Kids) == 0 {
			return e.also(slowEntry{sort: "value", name: n.Name, value: slowExn{by: by}, con: by})
		}
		return e.also(slowEntry{sort: "value", name: n.Name, value: slowFn(func(v any) any { return slowExn{by, v} }), con: by})
	case api.DStruct:
		return e.also(slowEntry{sort: "structure", name: n.Name, in: s.structure(n, e)})
	case api.DSig:
		return e.also(slowEntry{sort: "signature", name: n.Name, sig: n.Kids[0], in: e})
	case api.DOpen:
		return e.also(e.find("structure", n.Name).in...)
	}
	return e
}

// slowData is the constructors of a data.
func slowData(n api.Node) (list []slowEntry) {
	for _, b := range n.Kids {
		for _, k := range b.Kids[b.N:] {
			var v any = slowCon{name: k.Name}
			if len(k.Kids) > 0 {
				v = slowFn(func(arg any) any { return slowCon{name: k.Name, arg: arg} })
			}
			list = append(list, slowEntry{sort: "value", name: k.Name, value: v, con: k.Name})
		}
	}
	return list
}

func (s *slow) structure(n api.Node, e slowNames) (own slowNames) {
	if k := n.Kids[len(n.Kids)-1]; k.Kind == api.SPath {
		own = e.find("structure", k.Name).in
	} else {
		s.waiting(func() { _, own = s.decs(k.Kids, e) })
	}
	if n.N > 0 {
		return slowShown(own, n.Kids[0], e, slowData)
	}
	return own
}

// slowShown is what a signature shows of a structure's names; constructors are what they are by themselves.
func slowShown(own slowNames, sig api.Node, e slowNames, constructors func(api.Node) []slowEntry) (shown slowNames) {
	if sig.Kind == api.GName {
		s := e.find("signature", sig.Name)
		return slowShown(own, s.sig, s.in, constructors)
	}
	for _, k := range sig.Kids {
		switch k.Kind {
		case api.GVal, api.DExn:
			shown = append(shown, own.find("value", k.Name))
		case api.DData:
			shown = append(shown, constructors(k)...)
		case api.GStruct:
			in := slowShown(own.find("structure", k.Name).in, k.Kids[0], e, constructors)
			shown = append(shown, slowEntry{sort: "structure", name: k.Name, in: in})
		}
	}
	return shown
}
