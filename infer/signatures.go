package infer

import "mlcore/api"

// signature is what a signature asks for. That of a name is the same each time:
// where its open types have to be new ones, anew makes them so.
func (c *checker) signature(n api.Node) *structure {
	c.enter(n)
	switch n.Kind {
	case api.GName:
		t, ok := c.find(signatureName, n.Name)
		if !ok {
			c.fail(api.ErrName, n)
		}
		return t.structure
	case api.GBody:
		s := c.specifications(n)
		c.counts(s, n)
		return s
	}
	c.fail(api.ErrArg, n)
	return nil
}

func (c *checker) specifications(n api.Node) *structure {
	var s *structure
	c.within(func() {
		first := len(c.hidden)
		by := map[key]int{} // which specification named it
		for i, k := range n.Kids {
			here := len(c.hidden)
			c.specification(k)
			for _, h := range c.hidden[here:] {
				if other, ok := by[h.key]; ok && other != i {
					c.fail(api.ErrTwice, k)
				}
				by[h.key] = i
			}
		}
		s = c.since(first)
	})
	return s
}

func (c *checker) specification(n api.Node) {
	c.enter(n)
	switch n.Kind {
	case api.GVal:
		c.declareValue(n.Name, value{typ: c.typ(c.kid(n, 0), anyVariable())})
	case api.GType:
		c.typeAsked(n)
	case api.DData:
		c.data(n)
	case api.DExn:
		c.exception(n)
	case api.GStruct:
		s := c.anew(c.signature(c.kid(n, 0)), "")
		c.declare(key{structureName, n.Name}, thing{structure: s})
	default:
		c.fail(api.ErrArg, n)
	}
}

func (c *checker) typeAsked(n api.Node) {
	if _, rest := c.head(n); len(rest) > 0 {
		c.abbreviation(n)
		return
	}
	c.declareType(n.Name, c.newFamily(n, 0))
}

// anew is what a signature asks for, but that its open types are new ones,
// called by a path.
func (c *checker) anew(sig *structure, path string) *structure {
	by := becoming{}
	made := make([]madeType, len(sig.made))
	for i, m := range sig.made {
		old := m.typ.N
		m.typ.Name = path + m.path
		m.typ.N = c.number()
		made[i] = m
		by[old] = m.family
	}
	return by.view(sig, made)
}
