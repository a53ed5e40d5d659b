package infer

import (
	"maps"
	"slices"

	"mlcore/api"
	"mlcore/types"
)

// hold finds the variables that the names which are there ask for.
func (c *checker) hold() {
	clear(c.held)
	for _, t := range c.there {
		if t.value.open {
			c.holdIn(t.value.typ)
		}
		if t.structure != nil {
			c.holdEach(t.structure.asks)
		}
	}
}

func (c *checker) holdEach(variables map[int]int) {
	for n := range variables {
		c.holdIn(api.Type{Kind: api.TyVar, N: n})
	}
}

// holdIn goes through what a variable stands for only once: a type may hold the
// same variable more often than could be gone through.
func (c *checker) holdIn(t api.Type) {
	if t.Kind == api.TyVar {
		if _, ok := c.held[t.N]; ok {
			return
		}
		c.held[t.N] = 1
		t = c.Top(t)
	}
	if t.Kind == api.TyVar {
		c.held[t.N] = 1
	}
	for _, a := range t.Args {
		c.holdIn(a)
	}
}

// general is a type in which all variables that are not held stand for any type.
func (c *checker) general(t api.Type) api.Type {
	t = c.Replace(t)
	places := c.loose(t)
	for i, n := range slices.Sorted(maps.Keys(places)) {
		places[n] = i
	}
	return eachVariable(t, func(v api.Type) api.Type {
		if place, ok := places[v.N]; ok {
			return anything(place, v.Eq)
		}
		return v
	})
}

// loose is the variables of a type that are not held.
func (c *checker) loose(t api.Type) map[int]int {
	list := map[int]int{}
	for _, n := range types.Variables(t) {
		list[n] = 0
	}
	for n := range list {
		if _, ok := c.held[n]; ok {
			delete(list, n)
		}
	}
	return list
}

// instance is a type with a fresh variable for each that stands for any type.
func (c *checker) instance(t api.Type) api.Type {
	fresh := map[int]api.Type{}
	return eachVariable(t, func(v api.Type) api.Type {
		if !isAnything(v) {
			return v
		}
		if _, ok := fresh[v.N]; !ok {
			fresh[v.N] = c.Fresh(v.Eq)
		}
		return fresh[v.N]
	})
}

// ended is a type at the end of the program: what is still open in it is unit.
func (c *checker) ended(t api.Type) api.Type {
	return eachVariable(c.Replace(t), func(v api.Type) api.Type {
		if isAnything(v) {
			return v
		}
		return unitType()
	})
}

// settle declares names whose types are found: as general as these can be, if they may be so.
func (c *checker) settle(list []found, general bool) []found {
	settled := c.Replace
	if general {
		c.hold()
		settled = c.general
	}
	for i, x := range list {
		c.fits(x.typ, x.at)
		list[i].typ = settled(x.typ)
	}
	for _, x := range list {
		c.declareValue(x.name, value{typ: x.typ, open: isOpen(x.typ)})
	}
	return list
}
