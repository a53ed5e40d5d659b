package infer

import (
	"mlcore/api"
	"mlcore/types"
)

// mostNodes is more than a text of MaxText bytes has. Other trees may stand
// within themselves; of these no more is gone through.
const mostNodes = 4 * api.MaxText

// checker goes through a program. What it knows of variables and of names, and
// the names of the pattern that it is in, is shared by all its rules.
type checker struct {
	*types.Solver
	scope
	finds
	held map[int]int // the variables that the names outside of a declaration ask for
	path string      // of the structure that is gone through, with a dot behind it
	made int         // how many types were made that are like no other
	left int         // how many nodes may still be gone through
}

func newChecker() *checker {
	return &checker{
		Solver: types.NewSolver(),
		scope:  beginning(),
		finds:  finds{places: map[string]int{}},
		held:   map[int]int{},
		left:   mostNodes,
	}
}

// program is the types of the values that are declared at the top.
func (c *checker) program(n api.Node) []api.Typing {
	if n.Kind != api.Prog {
		c.fail(api.ErrArg, n)
	}
	var list []found
	for _, k := range n.Kids {
		list = append(list, c.dec(k)...)
	}
	for _, x := range list {
		c.fits(x.typ, x.at)
	}
	var typings []api.Typing
	for _, x := range list {
		typings = append(typings, api.Typing{Name: x.name, Type: types.Show(c.ended(x.typ))})
	}
	return typings
}

// single is the type of an expression by itself.
func (c *checker) single(n api.Node) string {
	t := c.exp(n)
	c.fits(t, n)
	return types.Show(c.Replace(t))
}

func (c *checker) fail(kind api.Errno, at api.Node) {
	panic(api.Fault{Kind: kind, At: at.At})
}

// fits asks that a type is not too great.
func (c *checker) fits(t api.Type, at api.Node) {
	if !c.Fits(t) {
		c.fail(api.ErrBig, at)
	}
}

// same makes two types the same.
func (c *checker) same(a, b api.Type, at api.Node) {
	if kind := c.Same(a, b); kind != api.OK {
		c.fail(kind, at)
	}
}

// enter comes to a node.
func (c *checker) enter(n api.Node) {
	c.left--
	if c.left < 0 {
		c.fail(api.ErrArg, n)
	}
}

// kid is a kid that a node has in every tree that was read.
func (c *checker) kid(n api.Node, i int) api.Node {
	if i < 0 || i >= len(n.Kids) {
		c.fail(api.ErrArg, n)
	}
	return n.Kids[i]
}

// number is that of a type that is like no other.
func (c *checker) number() int {
	c.made++
	return c.made
}

// rule finds the type of an expression, a pattern, or a written type.
type rule = func(api.Node) api.Type

// is finds the type of a part, and makes it the same as another.
func (c *checker) is(part api.Node, t api.Type, of rule) {
	c.same(of(part), t, part)
}

// product is the type of a tuple.
func (c *checker) product(n api.Node, of rule) api.Type {
	if len(n.Kids) == 0 {
		return unitType()
	}
	var args []api.Type
	for _, k := range n.Kids {
		args = append(args, of(k))
	}
	return tupleType(args...)
}

// elements is the type of a list whose elements are written out.
func (c *checker) elements(n api.Node, of rule) api.Type {
	a := c.Fresh(0)
	for _, k := range n.Kids {
		c.is(k, a, of)
	}
	return listType(a)
}

// annotated is the type of what has a type written behind it.
func (c *checker) annotated(n api.Node, of rule) api.Type {
	t := of(c.kid(n, 0))
	c.same(t, c.typ(c.kid(n, 1), c.boundBy(nil)), n)
	return t
}
