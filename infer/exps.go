package infer

import "mlcore/api"

// exp is the type of an expression.
func (c *checker) exp(n api.Node) api.Type {
	c.enter(n)
	switch n.Kind {
	case api.EInt:
		return intType()
	case api.EStr:
		return stringType()
	case api.EVar, api.ECon:
		return c.use(n)
	case api.ETuple:
		return c.product(n, c.exp)
	case api.EList:
		return c.elements(n, c.exp)
	case api.EFn:
		return c.function(n)
	case api.EApp:
		return c.apply(n)
	case api.EIf:
		return c.choose(n)
	case api.ECase:
		return c.cases(n, c.exp(c.kid(n, 0)), c.Fresh(0))
	case api.ETry:
		return c.cases(n, exnType(), c.exp(c.kid(n, 0)))
	case api.ERaise:
		c.is(c.kid(n, 0), exnType(), c.exp)
		return c.Fresh(0)
	case api.ELet:
		return c.let(n)
	case api.ESeq:
		return c.row(n)
	case api.EAnd, api.EOr:
		return c.operate(n, boolType(), boolType(), boolType())
	case api.EOp:
		return c.operation(n)
	case api.EHas:
		return c.annotated(n, c.exp)
	}
	c.fail(api.ErrArg, n)
	return api.Type{}
}

// use is the type of a name where it is used.
func (c *checker) use(n api.Node) api.Type {
	t, ok := c.find(valueName, n.Name)
	if !ok {
		c.fail(api.ErrName, n)
	}
	return c.instance(t.value.typ)
}

func (c *checker) function(n api.Node) api.Type {
	var from, to api.Type
	c.within(func() {
		c.forget()
		from = c.pat(c.kid(n, 0))
		c.know()
		to = c.exp(c.kid(n, 1))
	})
	return arrow(from, to)
}

func (c *checker) apply(n api.Node) api.Type {
	f, argument := c.kid(n, 0), c.kid(n, 1)
	whole := c.exp(f)
	from := c.exp(argument)
	to := c.Fresh(0)
	c.same(whole, arrow(from, to), argument)
	return to
}

func (c *checker) choose(n api.Node) api.Type {
	c.is(c.kid(n, 0), boolType(), c.exp)
	t := c.exp(c.kid(n, 1))
	c.is(c.kid(n, 2), t, c.exp)
	return t
}

// cases goes through the rules of a case or a try.
func (c *checker) cases(n api.Node, from, to api.Type) api.Type {
	for _, r := range n.Kids[1:] {
		c.within(func() {
			c.forget()
			c.is(c.kid(r, 0), from, c.pat)
			c.know()
			c.is(c.kid(r, 1), to, c.exp)
		})
	}
	return to
}

func (c *checker) let(n api.Node) api.Type {
	var t api.Type
	last := len(n.Kids) - 1
	end := c.kid(n, last)
	c.within(func() {
		for _, k := range n.Kids[:last] {
			c.dec(k)
		}
		t = c.exp(end)
	})
	return t
}

func (c *checker) row(n api.Node) api.Type {
	t := unitType()
	for _, k := range n.Kids {
		t = c.exp(k)
	}
	return t
}

// operation goes by what a sign asks for.
func (c *checker) operation(n api.Node) api.Type {
	number, text, truth := intType(), stringType(), boolType()
	switch n.Name {
	case "+", "-", "*", "/", "%":
		return c.operate(n, number, number, number)
	case "~":
		return c.operate(n, number, number)
	case "<", "<=", ">", ">=":
		return c.operate(n, truth, number, number)
	case "^":
		return c.operate(n, text, text, text)
	case "=", "<>":
		a := c.Fresh(1)
		return c.operate(n, truth, a, a)
	}
	a := c.Fresh(0)
	switch n.Name {
	case "::":
		return c.operate(n, listType(a), a, listType(a))
	case ":=":
		return c.operate(n, unitType(), refType(a), a)
	case "!":
		return c.operate(n, a, refType(a))
	}
	c.fail(api.ErrArg, n)
	return api.Type{}
}

// operate asks for a type of each kid.
func (c *checker) operate(n api.Node, gives api.Type, asks ...api.Type) api.Type {
	if len(n.Kids) != len(asks) {
		c.fail(api.ErrArg, n)
	}
	for i, k := range n.Kids {
		c.is(k, asks[i], c.exp)
	}
	return gives
}
