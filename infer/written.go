package infer

import (
	"strings"

	"mlcore/api"
)

// bound has the type variables that are bound somewhere, by their names.
type bound map[string]api.Type

// typ is the type that is written.
func (c *checker) typ(n api.Node, variables bound) api.Type {
	c.enter(n)
	var t api.Type
	of := func(k api.Node) api.Type { return c.typ(k, variables) }
	switch n.Kind {
	case api.YVar:
		return c.variable(n, variables)
	case api.YCon:
		t = c.member(n, of)
	case api.YTuple:
		t = c.product(n, of)
	case api.YArrow:
		from := of(c.kid(n, 0))
		t = arrow(from, of(c.kid(n, 1)))
	default:
		c.fail(api.ErrArg, n)
	}
	c.fits(t, n)
	return t
}

func (c *checker) variable(n api.Node, variables bound) api.Type {
	t, ok := variables[n.Name]
	if !ok {
		c.fail(api.ErrName, n)
	}
	return t
}

// member is the type that a name makes of the types ahead of it.
func (c *checker) member(n api.Node, of rule) api.Type {
	var row []api.Type
	for _, k := range n.Kids {
		row = append(row, of(k))
	}
	f, ok := c.families.there[n.Name]
	if !ok {
		c.fail(api.ErrName, n)
	}
	if f.params != len(row) {
		c.fail(api.ErrArity, n)
	}
	return eachVariable(f.typ, func(v api.Type) api.Type { return row[placeOf(v)] })
}

// head binds the variables of a declared type, and gives the kids behind them.
func (c *checker) head(n api.Node) (bound, []api.Node) {
	if n.N < 0 || n.N > len(n.Kids) {
		c.fail(api.ErrArg, n)
	}
	variables := bound{}
	for i, v := range n.Kids[:n.N] {
		if _, ok := variables[v.Name]; ok {
			c.fail(api.ErrTwice, v)
		}
		variables[v.Name] = anything(i, quoted(v.Name))
	}
	return variables, n.Kids[n.N:]
}

// quoted is 1 for a variable of compared types.
func quoted(name string) int {
	if strings.HasPrefix(name, "''") {
		return 1
	}
	return 0
}
