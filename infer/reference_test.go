package infer

import (
	"slices"
	"strings"

	"mlcore/api"
	shown "mlcore/types"
)

// A second checker, which follows the words of the chapter and takes its time:
// variables are replaced everywhere whenever a type is looked at, names stand in
// a list that is searched from its end, and none of them is ever forgotten but
// by going back to a shorter list.

type slow struct {
	stands map[int]api.Type
	eq     map[int]bool
	next   int
	types  int
	path   string
}

type slowValue struct {
	name string
	any  []int
	t    api.Type
	by   string // data, exception, or nothing
}

type slowType struct {
	name   string
	params []int
	t      api.Type
	open   bool        // in a signature
	cons   []slowValue // of a data
}

// slowEntry is a name: of a value, a type, a structure, or a signature.
type slowEntry struct {
	sort, name string
	value      slowValue
	typ        slowType
	in         slowNames // a structure's names, or those that were there at a signature
	sig        api.Node
}

// slowNames are searched from their end.
type slowNames []slowEntry

func (e slowNames) also(more ...slowEntry) slowNames { return append(slices.Clip(e), more...) }

func (e slowNames) with(list ...slowValue) slowNames {
	for _, v := range list {
		e = e.also(slowEntry{sort: "value", name: v.name, value: v})
	}
	return e
}

func (e slowNames) withType(t slowType) slowNames {
	return e.also(slowEntry{sort: "type", name: t.name, typ: t})
}

func (e slowNames) find(sort, path string) (slowEntry, bool) {
	first, rest, isPath := strings.Cut(path, ".")
	if isPath {
		s, ok := e.find("structure", first)
		if !ok {
			return slowEntry{}, false
		}
		return s.in.find(sort, rest)
	}
	for _, x := range slices.Backward(e) {
		if x.sort == sort && x.name == path {
			return x, true
		}
	}
	return slowEntry{}, false
}

func (e slowNames) value(path string) (slowValue, bool) {
	x, ok := e.find("value", path)
	return x.value, ok
}

func (e slowNames) typ(path string) (slowType, bool) {
	x, ok := e.find("type", path)
	return x.typ, ok
}

func slowFail(kind api.Errno, n api.Node) { panic(api.Fault{Kind: kind, At: n.At}) }

func slowCon(name string, eq int, args ...api.Type) api.Type {
	return api.Type{Kind: api.TyCon, Name: name, Eq: eq, Args: args}
}

func slowArrow(a, b api.Type) api.Type {
	return api.Type{Kind: api.TyArrow, Args: []api.Type{a, b}}
}

func slowTuple(args ...api.Type) api.Type { return api.Type{Kind: api.TyTuple, Args: args} }

var (
	sInt, sString, sBool = slowCon("int", 2), slowCon("string", 2), slowCon("bool", 2)
	sUnit, sExn          = slowCon("unit", 2), slowCon("exn", 0)
)

func sList(a api.Type) api.Type  { return slowCon("list", 1, a) }
func sRef(a api.Type) api.Type   { return slowCon("ref", 2, a) }
func sArray(a api.Type) api.Type { return slowCon("array", 2, a) }

func (s *slow) fresh(eq bool) api.Type {
	s.next++
	s.eq[s.next] = eq
	return api.Type{Kind: api.TyVar, N: s.next}
}

// whole is a type with all its variables replaced.
func (s *slow) whole(t api.Type) api.Type {
	if t.Kind == api.TyVar {
		if by, ok := s.stands[t.N]; ok {
			return s.whole(by)
		}
		if s.eq[t.N] {
			t.Eq = 1
		}
		return t
	}
	var args []api.Type
	for _, a := range t.Args {
		args = append(args, s.whole(a))
	}
	t.Args = args
	return t
}

func slowParts(t api.Type) int {
	n := 1
	for _, a := range t.Args {
		n += slowParts(a)
	}
	return n
}

func slowVariables(t api.Type) []int {
	if t.Kind == api.TyVar {
		return []int{t.N}
	}
	var l []int
	for _, a := range t.Args {
		l = append(l, slowVariables(a)...)
	}
	return l
}

// same is step 2 of P3.4.
func (s *slow) same(a, b api.Type, at api.Node) {
	a, b = s.whole(a), s.whole(b)
	if slowParts(a) > api.MaxType || slowParts(b) > api.MaxType {
		slowFail(api.ErrBig, at)
	}
	switch {
	case a.Kind == api.TyVar && b.Kind == api.TyVar && a.N == b.N:
	case a.Kind == api.TyVar:
		s.stand(a.N, b, at)
	case b.Kind == api.TyVar:
		s.stand(b.N, a, at)
	case a.Kind != b.Kind || a.Name != b.Name || a.N != b.N || len(a.Args) != len(b.Args):
		slowFail(api.ErrType, at)
	default:
		for i := range a.Args {
			s.same(a.Args[i], b.Args[i], at)
		}
	}
}

func (s *slow) stand(n int, t api.Type, at api.Node) {
	if slices.Contains(slowVariables(t), n) {
		slowFail(api.ErrCircle, at)
	}
	if s.eq[n] && !s.equal(t) {
		slowFail(api.ErrEqual, at)
	}
	s.stands[n] = t
}

func (s *slow) equal(t api.Type) bool {
	switch t.Kind {
	case api.TyVar:
		s.eq[t.N] = true
		return true
	case api.TyArrow:
		return false
	case api.TyCon:
		if t.Eq != 1 {
			return t.Eq == 2
		}
	}
	for _, a := range t.Args {
		if !s.equal(a) {
			return false
		}
	}
	return true
}

// put replaces variables.
func slowPut(t api.Type, numbers []int, by []api.Type) api.Type {
	if t.Kind == api.TyVar {
		if i := slices.Index(numbers, t.N); i >= 0 {
			return by[i]
		}
		return t
	}
	var args []api.Type
	for _, a := range t.Args {
		args = append(args, slowPut(a, numbers, by))
	}
	t.Args = args
	return t
}

func (s *slow) use(v slowValue) api.Type {
	var by []api.Type
	for _, n := range v.any {
		by = append(by, s.fresh(s.eq[n]))
	}
	return slowPut(s.whole(v.t), v.any, by)
}

func (s *slow) begin() slowNames {
	var e slowNames
	a := s.fresh(false)
	for _, t := range []api.Type{sInt, sString, sBool, sUnit, sExn} {
		e = e.withType(slowType{name: t.Name, t: t})
	}
	for _, t := range []api.Type{sList(a), sRef(a), sArray(a)} {
		e = e.withType(slowType{name: t.Name, params: []int{a.N}, t: t})
	}
	for _, f := range []struct {
		name  string
		takes api.Type
		gives api.Type
	}{
		{"not", sBool, sBool}, {"print", sString, sUnit}, {"str", sInt, sString}, {"size", sString, sInt},
		{"sub", slowTuple(sString, sInt), sInt}, {"part", slowTuple(sString, sInt, sInt), sString}, {"chr", sInt, sString},
		{"ref", a, sRef(a)}, {"array", slowTuple(sInt, a), sArray(a)}, {"length", sArray(a), sInt},
		{"at", slowTuple(sArray(a), sInt), a}, {"put", slowTuple(sArray(a), sInt, a), sUnit},
	} {
		e = e.with(slowValue{name: f.name, any: []int{a.N}, t: slowArrow(f.takes, f.gives)})
	}
	e = e.with(slowValue{name: "true", t: sBool, by: "data"}, slowValue{name: "false", t: sBool, by: "data"})
	for _, name := range strings.Fields("Match Bind Overflow Div Bounds Size") {
		e = e.with(slowValue{name: name, t: sExn, by: "exception"})
	}
	return e
}

func (s *slow) exp(n api.Node, e slowNames) api.Type {
	kid := func(i int, t api.Type) { s.same(s.exp(n.Kids[i], e), t, n.Kids[i]) }
	switch n.Kind {
	case api.EInt:
		return sInt
	case api.EStr:
		return sString
	case api.EVar, api.ECon:
		v, ok := e.value(n.Name)
		if !ok {
			slowFail(api.ErrName, n)
		}
		return s.use(v)
	case api.ETuple:
		if len(n.Kids) == 0 {
			return sUnit
		}
		var args []api.Type
		for _, k := range n.Kids {
			args = append(args, s.exp(k, e))
		}
		return slowTuple(args...)
	case api.EList:
		a := s.fresh(false)
		for i := range n.Kids {
			kid(i, a)
		}
		return sList(a)
	case api.EFn:
		p, names := s.pat(n.Kids[0], e, &[]slowValue{})
		return slowArrow(p, s.exp(n.Kids[1], e.with(names...)))
	case api.EApp:
		f := s.exp(n.Kids[0], e)
		arg := s.exp(n.Kids[1], e)
		r := s.fresh(false)
		s.same(f, slowArrow(arg, r), n.Kids[1])
		return r
	case api.EIf:
		kid(0, sBool)
		t := s.exp(n.Kids[1], e)
		kid(2, t)
		return t
	case api.ECase:
		first := s.exp(n.Kids[0], e)
		r := s.fresh(false)
		s.rules(n.Kids[1:], e, first, r)
		return r
	case api.ETry:
		first := s.exp(n.Kids[0], e)
		s.rules(n.Kids[1:], e, sExn, first)
		return first
	case api.ERaise:
		kid(0, sExn)
		return s.fresh(false)
	case api.ELet:
		for _, d := range n.Kids[:n.N] {
			e, _ = s.dec(d, e)
		}
		return s.exp(n.Kids[n.N], e)
	case api.ESeq:
		var t api.Type
		for _, k := range n.Kids {
			t = s.exp(k, e)
		}
		return t
	case api.EAnd, api.EOr:
		kid(0, sBool)
		kid(1, sBool)
		return sBool
	case api.EHas:
		t := s.exp(n.Kids[0], e)
		s.same(t, s.typ(n.Kids[1], e, nil), n)
		return t
	case api.EOp:
		return s.op(n.Name, kid)
	}
	panic("no expression")
}

func (s *slow) op(sign string, kid func(int, api.Type)) api.Type {
	two := func(a, b, gives api.Type) api.Type {
		kid(0, a)
		kid(1, b)
		return gives
	}
	switch sign {
	case "~":
		kid(0, sInt)
		return sInt
	case "<", "<=", ">", ">=":
		return two(sInt, sInt, sBool)
	case "^":
		return two(sString, sString, sString)
	case "=", "<>":
		a := s.fresh(true)
		return two(a, a, sBool)
	case "::":
		a := s.fresh(false)
		return two(a, sList(a), sList(a))
	case ":=":
		a := s.fresh(false)
		return two(sRef(a), a, sUnit)
	case "!":
		a := s.fresh(false)
		kid(0, sRef(a))
		return a
	}
	return two(sInt, sInt, sInt)
}

func (s *slow) rules(rules []api.Node, e slowNames, from, to api.Type) {
	for _, r := range rules {
		p, names := s.pat(r.Kids[0], e, &[]slowValue{})
		s.same(p, from, r.Kids[0])
		s.same(s.exp(r.Kids[1], e.with(names...)), to, r.Kids[1])
	}
}

// pat is the type of a pattern; its names come behind those that are there already.
func (s *slow) pat(n api.Node, e slowNames, names *[]slowValue) (api.Type, []slowValue) {
	t := s.patType(n, e, names)
	return t, *names
}

func (s *slow) patType(n api.Node, e slowNames, names *[]slowValue) api.Type {
	kid := func(i int, t api.Type) { s.same(s.patType(n.Kids[i], e, names), t, n.Kids[i]) }
	switch n.Kind {
	case api.PAny:
		return s.fresh(false)
	case api.PInt:
		return sInt
	case api.PStr:
		return sString
	case api.PVar, api.PAs:
		for _, x := range *names {
			if x.name == n.Name {
				slowFail(api.ErrTwice, n)
			}
		}
		t := s.fresh(false)
		*names = append(*names, slowValue{name: n.Name, t: t})
		if n.Kind == api.PAs {
			kid(0, t)
		}
		return t
	case api.PTuple:
		var args []api.Type
		for _, k := range n.Kids {
			args = append(args, s.patType(k, e, names))
		}
		if len(args) == 0 {
			return sUnit
		}
		return slowTuple(args...)
	case api.PList:
		a := s.fresh(false)
		for i := range n.Kids {
			kid(i, a)
		}
		return sList(a)
	case api.PCons:
		a := s.fresh(false)
		kid(0, a)
		kid(1, sList(a))
		return sList(a)
	case api.PHas:
		t := s.patType(n.Kids[0], e, names)
		s.same(t, s.typ(n.Kids[1], e, nil), n)
		return t
	case api.PCon:
		v, ok := e.value(n.Name)
		if !ok {
			slowFail(api.ErrName, n)
		}
		if (v.t.Kind == api.TyArrow) != (len(n.Kids) == 1) {
			slowFail(api.ErrArity, n)
		}
		t := s.use(v)
		if len(n.Kids) == 0 {
			return t
		}
		kid(0, t.Args[0])
		return t.Args[1]
	}
	panic("no pattern")
}

func (s *slow) typ(n api.Node, e slowNames, bound map[string]api.Type) api.Type {
	var args []api.Type
	for _, k := range n.Kids {
		args = append(args, s.typ(k, e, bound))
	}
	var t api.Type
	switch n.Kind {
	case api.YVar:
		v, ok := bound[n.Name]
		if !ok {
			slowFail(api.ErrName, n)
		}
		t = v
	case api.YTuple:
		t = slowTuple(args...)
	case api.YArrow:
		t = slowArrow(args[0], args[1])
	case api.YCon:
		f, ok := e.typ(n.Name)
		if !ok {
			slowFail(api.ErrName, n)
		}
		if len(f.params) != len(args) {
			slowFail(api.ErrArity, n)
		}
		t = slowPut(f.t, f.params, args)
	}
	if slowParts(t) > api.MaxType {
		slowFail(api.ErrBig, n)
	}
	return t
}

func slowValueOnly(n api.Node) bool {
	all := func() bool {
		for _, k := range n.Kids {
			if !slowValueOnly(k) {
				return false
			}
		}
		return true
	}
	switch n.Kind {
	case api.EInt, api.EStr, api.EVar, api.ECon, api.EFn:
		return true
	case api.EHas:
		return slowValueOnly(n.Kids[0])
	case api.EApp:
		return n.Kids[0].Kind == api.ECon && slowValueOnly(n.Kids[1])
	case api.ETuple, api.EList:
		return all()
	}
	return n.Kind == api.EOp && n.Name == "::" && all()
}

type slowTold struct {
	slowValue
	at api.Node
}

// settle makes names general, with the names outside of them.
func (s *slow) settle(list []slowTold, general bool, e slowNames) {
	for i, x := range list {
		t := s.whole(x.t)
		if slowParts(t) > api.MaxType {
			slowFail(api.ErrBig, x.at)
		}
		for _, n := range slowVariables(t) {
			if general && !s.asked(n, e) && !slices.Contains(list[i].any, n) {
				list[i].any = append(list[i].any, n)
			}
		}
	}
}

// asked is P4.3: does a name that is there have the variable?
func (s *slow) asked(n int, e slowNames) bool {
	for _, x := range e {
		if x.sort == "structure" && s.asked(n, x.in) {
			return true
		}
		if x.sort == "value" && slices.Contains(slowVariables(s.whole(x.value.t)), n) && !slices.Contains(x.value.any, n) {
			return true
		}
	}
	return false
}

func (s *slow) dec(n api.Node, e slowNames) (slowNames, []slowTold) {
	var list []slowTold
	switch n.Kind {
	case api.DVal:
		t := s.exp(n.Kids[1], e)
		p, names := s.pat(n.Kids[0], e, &[]slowValue{})
		s.same(p, t, n.Kids[0])
		for _, x := range names {
			list = append(list, slowTold{x, n.Kids[0]})
		}
		s.settle(list, slowValueOnly(n.Kids[1]), e)
	case api.DFun:
		list = s.fun(n, e)
		s.settle(list, true, e)
	case api.DExn:
		t := sExn
		if len(n.Kids) == 1 {
			t = slowArrow(s.typ(n.Kids[0], e, nil), sExn)
		}
		return e.with(slowValue{name: n.Name, t: t, by: "exception"}), nil
	case api.DType:
		bound, params := s.head(n)
		return e.withType(slowType{name: n.Name, params: params, t: s.typ(n.Kids[n.N], e, bound)}), nil
	case api.DData:
		return s.data(n, e, false), nil
	case api.DSig:
		s.signature(n.Kids[0], e)
		return e.also(slowEntry{sort: "signature", name: n.Name, sig: n.Kids[0], in: e}), nil
	case api.DOpen:
		x, ok := e.find("structure", n.Name)
		if !ok {
			slowFail(api.ErrName, n)
		}
		return e.also(x.in...), nil
	case api.DStruct:
		return s.structure(n, e)
	}
	for _, x := range list {
		e = e.with(x.slowValue)
	}
	return e, list
}

func (s *slow) fun(n api.Node, e slowNames) []slowTold {
	var list []slowTold
	for _, b := range n.Kids {
		for _, x := range list {
			if x.name == b.Name {
				slowFail(api.ErrTwice, b)
			}
		}
		list = append(list, slowTold{slowValue{name: b.Name, t: s.fresh(false)}, b})
	}
	for _, x := range list {
		e = e.with(x.slowValue)
	}
	for _, x := range list {
		var params []api.Type
		names := []slowValue{}
		last := len(x.at.Kids) - 1
		for _, p := range x.at.Kids[:last] {
			params = append(params, s.patType(p, e, &names))
		}
		t := s.exp(x.at.Kids[last], e.with(names...))
		for i := len(params) - 1; i >= 0; i-- {
			t = slowArrow(params[i], t)
		}
		s.same(x.t, t, x.at)
	}
	return list
}

func (s *slow) head(n api.Node) (map[string]api.Type, []int) {
	bound := map[string]api.Type{}
	var params []int
	for _, v := range n.Kids[:n.N] {
		if _, ok := bound[v.Name]; ok {
			slowFail(api.ErrTwice, v)
		}
		t := s.fresh(strings.HasPrefix(v.Name, "''"))
		bound[v.Name] = t
		params = append(params, t.N)
	}
	return bound, params
}

func (s *slow) data(n api.Node, e slowNames, open bool) slowNames {
	var heads []slowType
	var bounds []map[string]api.Type
	for _, b := range n.Kids {
		for _, h := range heads {
			if h.name == b.Name {
				slowFail(api.ErrTwice, b)
			}
		}
		bound, params := s.head(b)
		s.types++
		t := api.Type{Kind: api.TyCon, Name: s.path + b.Name, N: s.types, Eq: 1}
		for _, p := range params {
			t.Args = append(t.Args, api.Type{Kind: api.TyVar, N: p})
		}
		heads = append(heads, slowType{name: b.Name, params: params, t: t, open: open})
		bounds = append(bounds, bound)
	}
	// With all types compared first; then, while one shows that it is not, again without it.
	for {
		around := e
		for _, h := range heads {
			around = around.withType(h)
		}
		cons, wrong := s.cons(n, around, heads, bounds)
		if wrong < 0 {
			for i, h := range heads {
				h.cons = cons[i]
				e = e.withType(h)
			}
			return e.with(slices.Concat(cons...)...)
		}
		heads[wrong].t.Eq = 0
	}
}

// cons is the constructors of each type; and which type is not compared though it says so.
func (s *slow) cons(n api.Node, e slowNames, heads []slowType, bounds []map[string]api.Type) ([][]slowValue, int) {
	wrong := -1
	var seen []string
	out := make([][]slowValue, len(heads))
	for i, b := range n.Kids {
		for _, k := range b.Kids[b.N:] {
			if slices.Contains(seen, k.Name) {
				slowFail(api.ErrTwice, k)
			}
			seen = append(seen, k.Name)
			t := heads[i].t
			if len(k.Kids) == 1 {
				arg := s.typ(k.Kids[0], e, bounds[i])
				all := map[string]api.Type{}
				for name := range bounds[i] {
					all[name] = sInt
				}
				if heads[i].t.Eq == 1 && !s.equal(s.typ(k.Kids[0], e, all)) && wrong < 0 {
					wrong = i
				}
				t = slowArrow(arg, t)
			}
			out[i] = append(out[i], slowValue{k.Name, heads[i].params, t, "data"})
		}
	}
	return out, wrong
}

func slowly[T any](answer func(s *slow) T) (whole T, f api.Fault) {
	defer func() {
		switch v := recover().(type) {
		case nil:
		case api.Fault:
			f = v
		default:
			panic(v)
		}
	}()
	return answer(&slow{stands: map[int]api.Type{}, eq: map[int]bool{}}), f
}

// slowCheck is what Check should answer.
func slowCheck(n api.Node) ([]api.Typing, api.Fault) {
	return slowly(func(s *slow) []api.Typing {
		e := s.begin()
		var list []slowTold
		for _, d := range n.Kids {
			var more []slowTold
			e, more = s.dec(d, e)
			list = append(list, more...)
		}
		for _, x := range list {
			if slowParts(s.whole(x.t)) > api.MaxType {
				slowFail(api.ErrBig, x.at)
			}
		}
		var typings []api.Typing
		for _, x := range list {
			t := s.whole(x.t)
			for _, v := range slowVariables(t) {
				if !slices.Contains(x.any, v) {
					t = slowPut(t, []int{v}, []api.Type{sUnit})
				}
			}
			typings = append(typings, api.Typing{Name: x.name, Type: shown.Show(t)})
		}
		return typings
	})
}

// slowExp is what InferExp should answer of an expression's tree.
func slowExp(n api.Node) (string, api.Fault) {
	return slowly(func(s *slow) string {
		t := s.whole(s.exp(n, s.begin()))
		if slowParts(t) > api.MaxType {
			slowFail(api.ErrBig, n)
		}
		return shown.Show(t)
	})
}
