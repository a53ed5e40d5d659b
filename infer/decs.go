package infer

import (
	"slices"

	"mlcore/api"
)

// dec goes through a declaration; it tells the values of val, fun and structure.
func (c *checker) dec(n api.Node) []found {
	c.enter(n)
	switch n.Kind {
	case api.DVal:
		return c.val(n)
	case api.DFun:
		return c.fun(n)
	case api.DType:
		c.abbreviation(n)
	case api.DData:
		c.data(n)
	case api.DExn:
		c.exception(n)
	case api.DStruct:
		return c.structure(n)
	case api.DSig:
		s := c.signature(c.kid(n, 0))
		c.declare(key{signatureName, n.Name}, thing{structure: s})
	case api.DOpen:
		c.open(n)
	default:
		c.fail(api.ErrArg, n)
	}
	return nil
}

func (c *checker) val(n api.Node) []found {
	p, e := c.kid(n, 0), c.kid(n, 1)
	t := c.exp(e)
	c.forget()
	c.is(p, t, c.pat)
	list := c.inOrder
	for i := range list {
		list[i].at = p
	}
	return c.settle(list, makesValue(e))
}

// makesValue asks whether an expression only makes a value.
func makesValue(e api.Node) bool {
	switch e.Kind {
	case api.EInt, api.EStr, api.EVar, api.ECon, api.EFn:
		return true
	case api.EHas:
		return makesValue(e.Kids[0])
	case api.EApp:
		return e.Kids[0].Kind == api.ECon && makesValue(e.Kids[1])
	case api.EOp:
		return e.Name == "::" && makesValues(e.Kids)
	case api.ETuple, api.EList:
		return makesValues(e.Kids)
	}
	return false
}

func makesValues(list []api.Node) bool {
	return !slices.ContainsFunc(list, func(e api.Node) bool { return !makesValue(e) })
}

func (c *checker) fun(n api.Node) []found {
	c.forget()
	for _, b := range n.Kids {
		if !c.add(b, c.Fresh(0)) {
			c.fail(api.ErrTwice, b)
		}
	}
	list := c.inOrder
	c.within(func() {
		c.know()
		for _, x := range list {
			c.body(x)
		}
	})
	return c.settle(list, true)
}

// body finds the type of a function of a fun, whose name has one already.
func (c *checker) body(f found) {
	last := len(f.at.Kids) - 1
	e := c.kid(f.at, last)
	c.within(func() {
		var params []api.Type
		c.forget()
		for _, p := range f.at.Kids[:last] {
			params = append(params, c.pat(p))
		}
		c.know()
		t := c.exp(e)
		for _, p := range slices.Backward(params) {
			t = arrow(p, t)
		}
		c.same(f.typ, t, f.at)
	})
}

func (c *checker) abbreviation(n api.Node) {
	variable, rest := c.head(n)
	if len(rest) == 0 {
		c.fail(api.ErrArg, n)
	}
	c.declareType(n.Name, family{params: n.N, typ: c.typ(rest[0], variable)})
}

func (c *checker) exception(n api.Node) {
	c.declareValue(n.Name, value{typ: c.making(n, exnType(), c.boundBy(nil)), by: byException})
}

// making is the type of a constructor that makes a type: by itself, or of an argument.
func (c *checker) making(n api.Node, t api.Type, variable rule) api.Type {
	if len(n.Kids) == 0 {
		return t
	}
	return arrow(c.typ(n.Kids[0], variable), t)
}
