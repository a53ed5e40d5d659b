package infer

import "mlcore/api"

// pat is the type of a pattern.
func (c *checker) pat(n api.Node) api.Type {
	c.enter(n)
	switch n.Kind {
	case api.PAny:
		return c.Fresh(0)
	case api.PInt:
		return intType()
	case api.PStr:
		return stringType()
	case api.PVar:
		return c.name(n)
	case api.PAs:
		t := c.name(n)
		c.is(c.kid(n, 0), t, c.pat)
		return t
	case api.PTuple:
		return c.product(n, c.pat)
	case api.PList:
		return c.elements(n, c.pat)
	case api.PCons:
		a := c.Fresh(0)
		c.is(c.kid(n, 0), a, c.pat)
		c.is(c.kid(n, 1), listType(a), c.pat)
		return listType(a)
	case api.PHas:
		return c.annotated(n, c.pat)
	case api.PCon:
		return c.constructor(n)
	}
	c.fail(api.ErrArg, n)
	return api.Type{}
}

// name is the type of a name that a pattern has.
func (c *checker) name(n api.Node) api.Type {
	t := c.Fresh(0)
	if !c.add(n, t) {
		c.fail(api.ErrTwice, n)
	}
	return t
}

func (c *checker) constructor(n api.Node) api.Type {
	v, ok := c.find(valueName, n.Name)
	if !ok || v.value.by == byVal {
		c.fail(api.ErrName, n)
	}
	if takes(v.value.typ) != (len(n.Kids) > 0) {
		c.fail(api.ErrArity, n)
	}
	t := c.instance(v.value.typ)
	if len(n.Kids) == 0 {
		return t
	}
	c.is(n.Kids[0], t.Args[0], c.pat)
	return t.Args[1]
}

// takes asks whether a constructor of a type takes an argument.
func takes(t api.Type) bool { return t.Kind == api.TyArrow }

// know declares the names that were found, each with one type.
func (c *checker) know() {
	for _, x := range c.inOrder {
		c.declareValue(x.name, value{typ: x.typ, open: true})
	}
}
