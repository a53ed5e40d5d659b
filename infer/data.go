package infer

import (
	"mlcore/api"
	"mlcore/types"
)

// datatype is a type that a data makes.
type datatype struct {
	family
	name     string
	variable rule
	nodes    []api.Node // its constructors
}

func (c *checker) data(n api.Node) {
	list := c.datatypes(n)
	for _, d := range list {
		c.declareType(d.name, d.family)
	}
	cons := c.constructors(list)
	eqs := equalities(list, cons)
	for i, k := range cons {
		cons[i].typ = compared(k.typ, eqs)
	}
	rest := cons
	for _, d := range list {
		d.typ = compared(d.typ, eqs)
		d.cons, rest = rest[:len(d.nodes)], rest[len(d.nodes):]
		c.declareType(d.name, d.family)
	}
	for _, k := range cons {
		c.declareValue(k.name, value{typ: k.typ, by: byData})
	}
}

// datatypes is the types of a data, as if all of them were compared.
func (c *checker) datatypes(n api.Node) []datatype {
	var list []datatype
	c.forget()
	for _, b := range n.Kids {
		if !c.add(b, api.Type{}) {
			c.fail(api.ErrTwice, b)
		}
		variable, nodes := c.head(b)
		list = append(list, datatype{c.newFamily(b, 1), b.Name, variable, nodes})
	}
	return list
}

// newFamily is one whose types are like no other.
func (c *checker) newFamily(head api.Node, eq int) family {
	t := named(c.path+head.Name, eq)
	for i, v := range head.Kids[:head.N] {
		t.Args = append(t.Args, anything(i, quoted(v.Name)))
	}
	t.N = c.number()
	return family{params: head.N, typ: t, own: true}
}

// constructors is those of all types of a data, with their types.
func (c *checker) constructors(list []datatype) []found {
	c.forget()
	for _, d := range list {
		for _, k := range d.nodes {
			if !c.add(k, api.Type{}) {
				c.fail(api.ErrTwice, k)
			}
			c.inOrder[len(c.inOrder)-1].typ = c.making(k, d.typ, d.variable)
		}
	}
	return c.inOrder
}

// equalities is the Eq of each type of a data, by its number. All have 1, until
// an argument of a constructor shows that its type cannot.
func equalities(list []datatype, cons []found) map[int]int {
	eqs := map[int]int{}
	for _, d := range list {
		eqs[d.typ.N] = 1
	}
	for again := true; again; {
		again = false
		for _, k := range cons {
			if k.typ.Kind == api.TyArrow && eqs[k.typ.Args[1].N] == 1 && !admits(k.typ.Args[0], eqs) {
				eqs[k.typ.Args[1].N] = 0
				again = true
			}
		}
	}
	return eqs
}

// admits asks whether a type is compared if its variables are.
func admits(t api.Type, eqs map[int]int) bool {
	all := eachVariable(t, func(v api.Type) api.Type { return anything(placeOf(v), 1) })
	return types.Equality(compared(all, eqs)) == 1
}

// compared is a type whose parts that a data made have their Eq.
func compared(t api.Type, eqs map[int]int) api.Type {
	if eq, ok := eqs[t.N]; ok && t.Kind == api.TyCon {
		t.Eq = eq
	}
	args := make([]api.Type, len(t.Args))
	for i, a := range t.Args {
		args[i] = compared(a, eqs)
	}
	t.Args = args
	return t
}
