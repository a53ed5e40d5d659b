package infer

import (
	"strings"

	"mlcore/api"
)

// The sorts of names.
const (
	valueName = iota
	typeName
	structureName
	signatureName
)

// key is a name of a sort.
type key struct {
	sort int
	name string
}

// thing is what a name stands for: the part of it that its sort asks for.
type thing struct {
	value     value
	family    family
	structure *structure // of a signature: what it asks for
}

// The declarations that make values.
const (
	byVal = iota // or fun, or a pattern
	byData
	byException
)

// value is what is known of a value's name.
type value struct {
	typ  api.Type
	by   int  // the declaration that made it
	open bool // whether the type has variables that do not stand for any type
}

// family is what a type's name stands for: a type for each row of so many.
type family struct {
	params int
	typ    api.Type // what stands for any type in it, is taken from the row
	own    bool     // whether the type was made with the name: in a signature such a type is open
	cons   []found  // of a datatype: its constructors
}

// scope has the names that are there.
type scope struct {
	there  map[key]thing
	hidden []hiding // of each declaration, in their order
}

// hiding is what a name stood for ahead of a declaration, if it was there.
type hiding struct {
	key
	old thing
	was bool
}

func (s *scope) declare(k key, t thing) {
	old, was := s.there[k]
	s.hidden = append(s.hidden, hiding{k, old, was})
	s.there[k] = t
}

func (s *scope) declareValue(name string, v value) {
	s.declare(key{valueName, name}, thing{value: v})
}

func (s *scope) declareType(name string, f family) {
	s.declare(key{typeName, name}, thing{family: f})
}

// within takes the names back that a part of the program declares.
func (s *scope) within(part func()) {
	first := len(s.hidden)
	part()
	for last := len(s.hidden) - 1; last >= first; last-- {
		if h := s.hidden[last]; h.was {
			s.there[h.key] = h.old
		} else {
			delete(s.there, h.key)
		}
		s.hidden = s.hidden[:last]
	}
}

// find is what a path of a sort stands for, if all of it is there.
func (s *scope) find(sort int, path string) (thing, bool) {
	look := s.thing
	first, rest, isPath := strings.Cut(path, ".")
	for isPath {
		t, ok := look(key{structureName, first})
		if !ok {
			return thing{}, false
		}
		look = t.structure.thing
		first, rest, isPath = strings.Cut(rest, ".")
	}
	return look(key{sort, first})
}

func (s *scope) thing(k key) (thing, bool) {
	t, ok := s.there[k]
	return t, ok
}

// found is a name with its type, and the node at which this may be too great.
type found struct {
	name string
	typ  api.Type
	at   api.Node
}

// finds has the names of one pattern, or of one fun.
type finds struct {
	inOrder []found
	places  map[string]int
}

// forget begins anew, for another pattern.
func (f *finds) forget() {
	f.inOrder = nil
	clear(f.places)
}

// add takes the name of a node, and says whether it is a new one.
func (f *finds) add(n api.Node, t api.Type) bool {
	if _, ok := f.places[n.Name]; ok {
		return false
	}
	f.places[n.Name] = len(f.inOrder)
	f.inOrder = append(f.inOrder, found{n.Name, t, n})
	return true
}
