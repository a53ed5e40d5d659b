package infer

import (
	"slices"
	"strings"

	"mlcore/api"
)

// What the second checker does with structures and signatures. A signature is
// gone through anew each time that it is come to, in the names that were there.

// slowOwn is a structure's names: each where it came last.
func slowOwn(list slowNames) slowNames {
	var own slowNames
	for i, x := range list {
		_, again := list[i+1:].find(x.sort, x.name)
		if !again {
			own = append(own, x)
		}
	}
	return own
}

func slowCount(e slowNames) int {
	n := len(e)
	for _, x := range e {
		if x.sort == "structure" {
			n += slowCount(x.in)
		}
	}
	return n
}

func (s *slow) structure(n api.Node, e slowNames) (slowNames, []slowTold) {
	around := s.path
	var asked slowNames
	if n.N > 0 {
		asked = s.signature(n.Kids[0], e)
	}
	s.path += n.Name + "."
	body := n.Kids[len(n.Kids)-1]
	var own slowNames
	if body.Kind == api.SPath {
		x, ok := e.find("structure", body.Name)
		if !ok {
			slowFail(api.ErrName, body)
		}
		own = x.in
	} else {
		inner := e
		for _, d := range body.Kids {
			inner, _ = s.dec(d, inner)
		}
		own = slowOwn(inner[len(e):])
	}
	if n.N > 0 {
		shown := s.match(own, asked, map[int]slowType{}, n)
		if n.N == 2 {
			// Whatever is open there is made anew, and called by this path.
			shown = s.signature(n.Kids[0], e)
		}
		own = shown
	}
	s.path = around
	if slowCount(own) > api.MaxNames {
		slowFail(api.ErrBig, n)
	}
	return e.also(slowEntry{sort: "structure", name: n.Name, in: own}), slowTellings(own, n.Name+".", n)
}

func slowTellings(own slowNames, path string, at api.Node) []slowTold {
	var list []slowTold
	for _, x := range own {
		switch {
		case x.sort == "structure":
			list = append(list, slowTellings(x.in, path+x.name+".", at)...)
		case x.sort == "value" && x.value.by == "":
			v := x.value
			v.name = path + v.name
			list = append(list, slowTold{v, at})
		}
	}
	return list
}

func (s *slow) signature(n api.Node, e slowNames) slowNames {
	if n.Kind == api.GName {
		x, ok := e.find("signature", n.Name)
		if !ok {
			slowFail(api.ErrName, n)
		}
		return s.signature(x.sig, x.in)
	}
	names := e
	for _, k := range n.Kids {
		before := names[len(e):]
		names = s.specification(k, names)
		for _, x := range names[len(e)+len(before):] {
			if _, twice := before.find(x.sort, x.name); twice {
				slowFail(api.ErrTwice, k)
			}
		}
	}
	own := names[len(e):]
	if slowCount(own) > api.MaxNames {
		slowFail(api.ErrBig, n)
	}
	return own
}

func (s *slow) specification(n api.Node, e slowNames) slowNames {
	switch n.Kind {
	case api.GVal:
		bound := map[string]api.Type{}
		v := slowValue{name: n.Name}
		slowQuoted(n, func(name string) {
			if _, ok := bound[name]; !ok {
				bound[name] = s.fresh(strings.HasPrefix(name, "''"))
				v.any = append(v.any, bound[name].N)
			}
		})
		v.t = s.typ(n.Kids[0], e, bound)
		return e.with(v)
	case api.GType:
		bound, params := s.head(n)
		if len(n.Kids) > n.N {
			return e.withType(slowType{name: n.Name, params: params, t: s.typ(n.Kids[n.N], e, bound)})
		}
		s.types++
		t := api.Type{Kind: api.TyCon, Name: s.path + n.Name, N: s.types}
		for _, p := range params {
			t.Args = append(t.Args, api.Type{Kind: api.TyVar, N: p})
		}
		return e.withType(slowType{name: n.Name, params: params, t: t, open: true})
	case api.DData:
		return s.data(n, e, true)
	case api.GStruct:
		around := s.path
		s.path += n.Name + "."
		in := s.signature(n.Kids[0], e)
		s.path = around
		return e.also(slowEntry{sort: "structure", name: n.Name, in: in})
	}
	e, _ = s.dec(n, e)
	return e
}

func slowQuoted(n api.Node, meet func(string)) {
	if n.Kind == api.YVar {
		meet(n.Name)
	}
	for _, k := range n.Kids {
		slowQuoted(k, meet)
	}
}

// slowGreat is more parts than any type is written out with.
const slowGreat = 100000

// say puts the structure's types in the place of the open ones, from within.
func slowSay(t api.Type, became map[int]slowType) api.Type {
	var args []api.Type
	parts := 0
	for _, a := range t.Args {
		a = slowSay(a, became)
		parts += slowParts(a)
		args = append(args, a)
	}
	if parts > slowGreat {
		panic("too great for this checker")
	}
	t.Args = args
	if by, ok := became[t.N]; ok && t.Kind == api.TyCon {
		return slowPut(by.t, by.params, args)
	}
	return t
}

func slowAlike(a, b api.Type) bool {
	return a.Kind == b.Kind && a.Name == b.Name && a.N == b.N && slices.EqualFunc(a.Args, b.Args, slowAlike)
}

// match is what a signature shows of a structure by `:`.
func (s *slow) match(own, asked slowNames, became map[int]slowType, at api.Node) slowNames {
	shown := slices.Clone(asked)
	for i, x := range asked {
		has, ok := own.find(x.sort, x.name)
		if x.sort == "value" {
			continue
		}
		if !ok {
			slowFail(api.ErrLess, at)
		}
		if x.sort == "structure" {
			shown[i].in = s.match(has.in, x.in, became, at)
			continue
		}
		if len(x.typ.params) != len(has.typ.params) {
			slowFail(api.ErrOther, at)
		}
		if x.typ.open {
			became[x.typ.t.N] = has.typ
			shown[i].typ = has.typ
			shown[i].typ.cons = nil
			continue
		}
		shown[i].typ.t = slowSay(x.typ.t, became)
		if !slowAlike(slowOver(shown[i].typ.params, shown[i].typ.t), slowOver(has.typ.params, has.typ.t)) {
			slowFail(api.ErrOther, at)
		}
	}
	for i, x := range asked {
		has, ok := own.find(x.sort, x.name)
		switch {
		case x.sort == "type" && len(x.typ.cons) > 0:
			shown[i].typ.cons = s.matchData(has.typ, x.typ, became, at)
		case x.sort == "value" && x.value.by == "data":
			shown[i].value.t = slowSay(x.value.t, became)
		case x.sort == "value":
			if !ok {
				slowFail(api.ErrLess, at)
			}
			shown[i].value.t = slowSay(x.value.t, became)
			if has.value.by != x.value.by || !s.asGeneral(has.value, shown[i].value) {
				slowFail(api.ErrOther, at)
			}
		}
	}
	return shown
}

// slowOver is a type with numbers from -1 down for its parameters.
func slowOver(params []int, t api.Type) api.Type {
	var by []api.Type
	for i := range params {
		by = append(by, api.Type{Kind: api.TyVar, N: -1 - i})
	}
	return slowPut(t, params, by)
}

func (s *slow) matchData(has, asked slowType, became map[int]slowType, at api.Node) []slowValue {
	if len(has.cons) != len(asked.cons) {
		slowFail(api.ErrOther, at)
	}
	var cons []slowValue
	for i, k := range asked.cons {
		h := has.cons[i]
		if k.name != h.name || (k.t.Kind == api.TyArrow) != (h.t.Kind == api.TyArrow) {
			slowFail(api.ErrOther, at)
		}
		k.t = slowSay(k.t, became)
		if !slowAlike(slowOver(k.any, k.t), slowOver(h.any, h.t)) {
			slowFail(api.ErrOther, at)
		}
		cons = append(cons, k)
	}
	return cons
}

func (s *slow) asGeneral(has, asked slowValue) (ok bool) {
	defer func() {
		switch v := recover().(type) {
		case nil:
		case api.Fault:
			ok = false
		default:
			panic(v)
		}
	}()
	before, types := s.next, s.types
	var like []api.Type
	for _, n := range asked.any {
		s.types++
		t := api.Type{Kind: api.TyCon, Name: "?", N: s.types}
		if s.eq[n] {
			t.Eq = 2
		}
		like = append(like, t)
	}
	s.same(s.use(has), slowPut(asked.t, asked.any, like), api.Node{})
	for n := 1; n <= before; n++ {
		if slowHolds(s.whole(api.Type{Kind: api.TyVar, N: n}), types) {
			return false
		}
	}
	return true
}

func slowHolds(t api.Type, types int) bool {
	if t.Kind == api.TyCon && t.N > types {
		return true
	}
	return slices.ContainsFunc(t.Args, func(a api.Type) bool { return slowHolds(a, types) })
}
