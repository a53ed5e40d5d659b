package infer

import (
	"strings"

	"mlcore/api"
)

// typ is the type that is written; another rule says what its variables are.
func (c *checker) typ(n api.Node, variable rule) api.Type {
	c.enter(n)
	var t api.Type
	of := func(k api.Node) api.Type { return c.typ(k, variable) }
	switch n.Kind {
	case api.YVar:
		return variable(n)
	case api.YCon:
		t = c.member(n, of)
	case api.YTuple:
		t = c.product(n, of)
	case api.YArrow:
		from := of(c.kid(n, 0))
		t = arrow(from, of(c.kid(n, 1)))
	default:
		c.fail(api.ErrArg, n)
	}
	c.fits(t, n)
	return t
}

// boundBy is the rule for variables where some are bound, by their names.
func (c *checker) boundBy(variables map[string]api.Type) rule {
	return func(n api.Node) api.Type {
		t, ok := variables[n.Name]
		if !ok {
			c.fail(api.ErrName, n)
		}
		return t
	}
}

// anyVariable is the rule where each variable stands for any type.
func anyVariable() rule {
	variables := map[string]api.Type{}
	return func(n api.Node) api.Type {
		if _, ok := variables[n.Name]; !ok {
			variables[n.Name] = anything(len(variables), quoted(n.Name))
		}
		return variables[n.Name]
	}
}

// member is the type that a name makes of the types ahead of it.
func (c *checker) member(n api.Node, of rule) api.Type {
	var row []api.Type
	for _, k := range n.Kids {
		row = append(row, of(k))
	}
	t, ok := c.find(typeName, n.Name)
	if !ok {
		c.fail(api.ErrName, n)
	}
	if t.family.params != len(row) {
		c.fail(api.ErrArity, n)
	}
	return eachVariable(t.family.typ, func(v api.Type) api.Type { return row[placeOf(v)] })
}

// head binds the variables of a declared type, and gives the kids behind them.
func (c *checker) head(n api.Node) (rule, []api.Node) {
	if n.N < 0 || n.N > len(n.Kids) {
		c.fail(api.ErrArg, n)
	}
	variables := map[string]api.Type{}
	for i, v := range n.Kids[:n.N] {
		if _, ok := variables[v.Name]; ok {
			c.fail(api.ErrTwice, v)
		}
		variables[v.Name] = anything(i, quoted(v.Name))
	}
	return c.boundBy(variables), n.Kids[n.N:]
}

// quoted is 1 for a variable of compared types.
func quoted(name string) int {
	if strings.HasPrefix(name, "''") {
		return 1
	}
	return 0
}
