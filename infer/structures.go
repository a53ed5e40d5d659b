package infer

import (
	"maps"

	"mlcore/api"
)

// structure has names of its own, in an order. A signature is one, too, of what
// it asks for: its open types are those that were made with their names.
type structure struct {
	names map[key]thing
	order []key
	count int         // of its names and those of its structures
	asks  map[int]int // the variables of its values' types that do not stand for any type
	made  []madeType  // of a signature: its open types, and those of its structures

	of *structure // of a view: the signature
	by becoming   // of a view: what its open types have become
}

// madeType is a type that was made with a name, which has a path.
type madeType struct {
	path string
	family
}

func newStructure() *structure {
	return &structure{names: map[key]thing{}, asks: map[int]int{}}
}

// thing is what a name of the structure stands for, if it has it.
func (s *structure) thing(k key) (thing, bool) {
	t, ok := s.names[k]
	if ok || s.of == nil {
		return t, ok
	}
	if t, ok = s.of.thing(k); ok {
		t = s.by.thing(k, t)
		s.names[k] = t
	}
	return t, ok
}

// add takes a name that the structure does not have yet.
func (s *structure) add(k key, t thing) {
	s.names[k] = t
	s.order = append(s.order, k)
	s.count++
	if t.value.open {
		for _, n := range openVariables(t.value.typ) {
			s.asks[n] = 1
		}
	}
	if t.family.own {
		s.made = append(s.made, madeType{k.name, t.family})
	}
	if t.structure != nil {
		s.addInner(k.name, t.structure)
	}
}

func (s *structure) addInner(name string, inner *structure) {
	s.count += inner.count
	maps.Copy(s.asks, inner.asks)
	for _, m := range inner.made {
		s.made = append(s.made, madeType{name + "." + m.path, m.family})
	}
}

// since is the names that were declared behind the first so many declarations.
func (s *scope) since(first int) *structure {
	list := s.hidden[first:]
	last := map[key]int{}
	for i, h := range list {
		last[h.key] = i
	}
	all := newStructure()
	for i, h := range list {
		if last[h.key] == i {
			all.add(h.key, s.there[h.key])
		}
	}
	return all
}

// structure goes through a structure's declaration; it tells the values that it has then.
func (c *checker) structure(n api.Node) []found {
	var sig *structure
	if n.N > 0 {
		sig = c.signature(c.kid(n, 0))
	}
	around := c.path
	c.path += n.Name + "."
	s := c.content(c.kid(n, len(n.Kids)-1))
	if sig != nil {
		s = c.match(s, sig, n)
	}
	c.path = around
	c.counts(s, n)
	c.declare(key{structureName, n.Name}, thing{structure: s})
	return s.values(n.Name+".", n)
}

// counts asks that a structure, or a signature, has not too many names.
func (c *checker) counts(s *structure, at api.Node) {
	if s.count > api.MaxNames {
		c.fail(api.ErrBig, at)
	}
}

// content is the structure that is written, or that a path names.
func (c *checker) content(n api.Node) *structure {
	c.enter(n)
	if n.Kind == api.SPath {
		return c.structureAt(n)
	}
	if n.Kind != api.SBody {
		c.fail(api.ErrArg, n)
	}
	var s *structure
	c.within(func() {
		first := len(c.hidden)
		for _, k := range n.Kids {
			c.dec(k)
		}
		s = c.since(first)
	})
	return s
}

// structureAt is the structure whose path a node has.
func (c *checker) structureAt(n api.Node) *structure {
	t, ok := c.find(structureName, n.Name)
	if !ok {
		c.fail(api.ErrName, n)
	}
	return t.structure
}

func (c *checker) open(n api.Node) {
	s := c.structureAt(n)
	for _, k := range s.order {
		t, _ := s.thing(k)
		c.declare(k, t)
	}
}

// values is those of a structure that val and fun declared, called by its path.
func (s *structure) values(path string, at api.Node) []found {
	var list []found
	for _, k := range s.order {
		t, _ := s.thing(k)
		switch {
		case k.sort == structureName:
			list = append(list, t.structure.values(path+k.name+".", at)...)
		case k.sort == valueName && t.value.by == byVal:
			list = append(list, found{path + k.name, t.value.typ, at})
		}
	}
	return list
}
