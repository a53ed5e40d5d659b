package layers

import (
	"slices"
	"strings"

	"mlcore/api"
)

// A second way to core terms, which follows the words of the chapter: declarations
// are handed what comes behind them, names stand in a list that is searched from
// its end, and each term is written out.

type slowCore struct{ numbers int }

// slowMeant is what a name stands for: op, N, Of, S of its term; and whether it has an argument.
type slowMeant struct {
	op, n, of int
	s         string
	argument  bool
}

func slowTermOf(n api.Node) api.Term {
	c := &slowCore{}
	var e slowNames
	for _, name := range strings.Fields("not print str size sub part chr ref array length at put") {
		e = e.with(name, slowMeant{op: api.TBase, s: name})
	}
	e = e.with("false", slowMeant{op: api.TCon, n: 0, of: 2, s: "false"}).with("true", slowMeant{op: api.TCon, n: 1, of: 2, s: "true"})
	for i, name := range strings.Fields("Size Bounds Div Overflow Bind Match") {
		e = e.with(name, slowMeant{op: api.TExn, n: i - 6})
	}
	return c.decs(n.Kids, e, func(slowNames) api.Term { return api.Term{Op: api.TTuple} })
}

func (c *slowCore) next() int {
	c.numbers++
	return c.numbers
}

func (c *slowCore) variable(name string, e *slowNames) int {
	n := c.next()
	*e = e.with(name, slowMeant{op: api.TVar, n: n})
	return n
}

func slowCoreData(n api.Node) (list []slowEntry) {
	for _, b := range n.Kids {
		number := 0
		for _, k := range b.Kids {
			if k.Kind == api.Con {
				m := slowMeant{api.TCon, number, len(b.Kids) - b.N, k.Name, len(k.Kids) == 1}
				list = append(list, slowEntry{sort: "value", name: k.Name, value: m})
				number++
			}
		}
	}
	return list
}

// decs is the term of declarations, with the one of what comes behind them.
func (c *slowCore) decs(list []api.Node, e slowNames, rest func(slowNames) api.Term) api.Term {
	if len(list) == 0 {
		return rest(e)
	}
	return c.dec(list[0], e, func(e slowNames) api.Term { return c.decs(list[1:], e, rest) })
}

func (c *slowCore) dec(n api.Node, e slowNames, rest func(slowNames) api.Term) api.Term {
	t := api.Term{At: n.At}
	switch n.Kind {
	case api.DVal:
		t.Op = api.TLet
		t.Kids = append(t.Kids, c.exp(n.Kids[1], e))
		t.Pats = append(t.Pats, c.pat(n.Kids[0], &e))
	case api.DFun:
		t.Op = api.TFuns
		for _, b := range n.Kids {
			t.Ns = append(t.Ns, c.variable(b.Name, &e))
		}
		for _, b := range n.Kids {
			t.Kids = append(t.Kids, c.function(b, b.Kids, e))
		}
	case api.DExn:
		t.Op, t.N, t.S, t.Of = api.TNewExn, c.next(), n.Name, len(n.Kids)
		e = e.with(n.Name, slowMeant{op: api.TExn, n: t.N, argument: len(n.Kids) == 1})
	case api.DStruct:
		return c.structure(n, e, rest)
	case api.DData:
		return rest(e.also(slowCoreData(n)...))
	case api.DSig:
		return rest(e.also(slowEntry{sort: "signature", name: n.Name, sig: n.Kids[0], in: e}))
	case api.DOpen:
		return rest(e.also(e.find("structure", n.Name).in...))
	default:
		return rest(e)
	}
	t.Kids = append(t.Kids, rest(e))
	return t
}

func (c *slowCore) structure(n api.Node, e slowNames, rest func(slowNames) api.Term) api.Term {
	declare := func(own slowNames) api.Term {
		if n.N > 0 {
			own = slowShown(own, n.Kids[0], e, slowCoreData)
		}
		return rest(e.also(slowEntry{sort: "structure", name: n.Name, in: own}))
	}
	body := n.Kids[len(n.Kids)-1]
	if body.Kind == api.SPath {
		return declare(e.find("structure", body.Name).in)
	}
	return c.decs(body.Kids, e, func(inner slowNames) api.Term { return declare(inner[len(e):]) })
}

// function is a TFn of the first of some kids of a node with, in it, one of the next; the last is the body.
func (c *slowCore) function(n api.Node, kids []api.Node, e slowNames) api.Term {
	if len(kids) == 1 {
		return c.exp(kids[0], e)
	}
	p := c.pat(kids[0], &e)
	return api.Term{Op: api.TFn, At: n.At, Pats: []api.Pat{p}, Kids: []api.Term{c.function(n, kids[1:], e)}}
}

func (c *slowCore) exp(n api.Node, e slowNames) api.Term {
	t := api.Term{At: n.At}
	switch n.Kind {
	case api.EInt:
		t.Op, t.N = api.TInt, n.N
	case api.EStr:
		t.Op, t.S = api.TStr, n.Name
	case api.EVar:
		m := e.find("value", n.Name).value.(slowMeant)
		t.Op, t.N, t.S = m.op, m.n, m.s
	case api.ECon:
		m := e.find("value", n.Name).value.(slowMeant)
		con := api.Term{Op: m.op, N: m.n, Of: m.of, S: m.s, At: n.At}
		if !m.argument {
			return con
		}
		x := c.next()
		con.Kids = []api.Term{{Op: api.TVar, N: x, At: n.At}}
		t.Op, t.Pats, t.Kids = api.TFn, []api.Pat{{Kind: api.PtVar, N: x, At: n.At}}, []api.Term{con}
	case api.EApp:
		t.Op = api.TApp
		if first := n.Kids[0]; first.Kind == api.ECon {
			m := e.find("value", first.Name).value.(slowMeant)
			return api.Term{Op: m.op, N: m.n, Of: m.of, S: m.s, At: first.At, Kids: []api.Term{c.exp(n.Kids[1], e)}}
		}
		t.Kids = c.exps(n.Kids, e)
	case api.EList:
		return slowList(c.exps(n.Kids, e), n.At)
	case api.EFn:
		return c.function(n, n.Kids, e)
	case api.ELet:
		return c.decs(n.Kids[:n.N], e, func(e slowNames) api.Term { return c.exp(n.Kids[n.N], e) })
	case api.EHas:
		return c.exp(n.Kids[0], e)
	case api.ECase, api.ETry:
		t.Op = map[int]int{api.ECase: api.TCase, api.ETry: api.TTry}[n.Kind]
		t.Kids = append(t.Kids, c.exp(n.Kids[0], e))
		for _, r := range n.Kids[1:] {
			inner := e
			t.Pats = append(t.Pats, c.pat(r.Kids[0], &inner))
			t.Kids = append(t.Kids, c.exp(r.Kids[1], inner))
		}
	case api.EOp:
		t.Op, t.S, t.Kids = api.TOp, n.Name, c.exps(n.Kids, e)
		if n.Name == "::" {
			return slowCons(t.Kids[0], t.Kids[1], n.At)
		}
	case api.EAnd:
		l := c.exps(n.Kids, e)
		t.Op, t.Kids = api.TIf, append(l, api.Term{Op: api.TCon, N: 0, Of: 2, S: "false", At: n.At})
	case api.EOr:
		l := c.exps(n.Kids, e)
		t.Op, t.Kids = api.TIf, []api.Term{l[0], {Op: api.TCon, N: 1, Of: 2, S: "true", At: n.At}, l[1]}
	default:
		t.Op = map[int]int{api.ETuple: api.TTuple, api.EIf: api.TIf, api.ERaise: api.TRaise, api.ESeq: api.TSeq}[n.Kind]
		t.Kids = c.exps(n.Kids, e)
	}
	return t
}

func (c *slowCore) exps(list []api.Node, e slowNames) (all []api.Term) {
	for _, n := range list {
		all = append(all, c.exp(n, e))
	}
	return all
}

func slowCons(a, b api.Term, at int) api.Term {
	return api.Term{Op: api.TCon, N: 1, Of: 2, S: "::", At: at, Kids: []api.Term{{Op: api.TTuple, At: at, Kids: []api.Term{a, b}}}}
}

func slowList(l []api.Term, at int) api.Term {
	if len(l) == 0 {
		return api.Term{Op: api.TCon, N: 0, Of: 2, S: "[]", At: at}
	}
	return slowCons(l[0], slowList(l[1:], at), l[0].At)
}

// pat is a pattern; its names are put on top of others.
func (c *slowCore) pat(n api.Node, e *slowNames) api.Pat {
	p := api.Pat{At: n.At}
	switch n.Kind {
	case api.PAny:
		p.Kind = api.PtAny
	case api.PVar:
		p.Kind, p.N = api.PtVar, c.variable(n.Name, e)
	case api.PAs:
		p.Kind, p.N = api.PtAs, c.variable(n.Name, e)
		p.Kids = c.pats(n.Kids, e)
	case api.PInt:
		p.Kind, p.N = api.PtInt, n.N
	case api.PStr:
		p.Kind, p.S = api.PtStr, n.Name
	case api.PTuple:
		p.Kind, p.Kids = api.PtTuple, c.pats(n.Kids, e)
	case api.PCon:
		m := e.find("value", n.Name).value.(slowMeant)
		p.Kind, p.N, p.Of, p.S = api.PtCon, m.n, m.of, m.s
		if m.op == api.TExn {
			p.Kind = api.PtExn
		}
		p.Kids = c.pats(n.Kids, e)
	case api.PCons:
		l := c.pats(n.Kids, e)
		return slowPatCons(l[0], l[1], n.At)
	case api.PList:
		list := api.Pat{Kind: api.PtCon, N: 0, Of: 2, S: "[]", At: n.At}
		for _, x := range slices.Backward(c.pats(n.Kids, e)) {
			list = slowPatCons(x, list, n.At)
		}
		return list
	case api.PHas:
		return c.pat(n.Kids[0], e)
	}
	return p
}

func (c *slowCore) pats(list []api.Node, e *slowNames) (all []api.Pat) {
	for _, n := range list {
		all = append(all, c.pat(n, e))
	}
	return all
}

func slowPatCons(a, b api.Pat, at int) api.Pat {
	return api.Pat{Kind: api.PtCon, N: 1, Of: 2, S: "::", At: at, Kids: []api.Pat{{Kind: api.PtTuple, At: at, Kids: []api.Pat{a, b}}}}
}

// sameTerm says whether two terms are the same in all; an empty list may be nil.
func sameTerm(a, b api.Term) bool {
	return a.Op == b.Op && a.N == b.N && a.Of == b.Of && a.At == b.At && a.S == b.S && slices.Equal(a.Ns, b.Ns) &&
		slices.EqualFunc(a.Pats, b.Pats, samePat) && slices.EqualFunc(a.Kids, b.Kids, sameTerm)
}

func samePat(a, b api.Pat) bool {
	return a.Kind == b.Kind && a.N == b.N && a.Of == b.Of && a.At == b.At && a.S == b.S && slices.EqualFunc(a.Kids, b.Kids, samePat)
}
