package infer

import "mlcore/api"

// names are those of one sort that are there.
type names[T any] struct {
	there  map[string]T
	hidden []hiding[T] // of each declaration, in their order
}

// hiding is what a name stood for ahead of a declaration, if it was there.
type hiding[T any] struct {
	name string
	old  T
	was  bool
}

func newNames[T any]() names[T] { return names[T]{there: map[string]T{}} }

func (l *names[T]) declare(name string, thing T) {
	old, was := l.there[name]
	l.hidden = append(l.hidden, hiding[T]{name, old, was})
	l.there[name] = thing
}

// leave takes back all declarations but the first so many.
func (l *names[T]) leave(first int) {
	for last := len(l.hidden) - 1; last >= first; last-- {
		if h := l.hidden[last]; h.was {
			l.there[h.name] = h.old
		} else {
			delete(l.there, h.name)
		}
		l.hidden = l.hidden[:last]
	}
}

// value is what is known of a value's name.
type value struct {
	typ  api.Type
	con  bool // a constructor, or an exception
	open bool // whether the type has variables that do not stand for any type
}

// family is what a type's name stands for: a type for each row of so many.
type family struct {
	params int
	typ    api.Type // what stands for any type in it, is taken from the row
}

// scope has the names that are there.
type scope struct {
	values   names[value]
	families names[family]
}

// within takes the values' names back that a part of the program declares.
func (s *scope) within(part func()) {
	first := len(s.values.hidden)
	part()
	s.values.leave(first)
}

// found is a name with its type, and the node at which this may be too great.
type found struct {
	name string
	typ  api.Type
	at   api.Node
}

// finds has the names of one pattern, or of one fun.
type finds struct {
	inOrder []found
	places  map[string]int
}

// forget begins anew, for another pattern.
func (f *finds) forget() {
	f.inOrder = nil
	clear(f.places)
}

// add takes the name of a node, and says whether it is a new one.
func (f *finds) add(n api.Node, t api.Type) bool {
	if _, ok := f.places[n.Name]; ok {
		return false
	}
	f.places[n.Name] = len(f.inOrder)
	f.inOrder = append(f.inOrder, found{n.Name, t, n})
	return true
}
