// Package scopes finds what the names of a program's values stand for: those that
// are there, those of structures, and those that signatures show. It is for
// programs that have types: all of their names are there.
package scopes

import (
	"slices"
	"strings"

	"mlcore/api"
)

// Constructor is one of a datatype: its name, its number there and of how many,
// and whether it takes an argument.
type Constructor struct {
	Name       string
	Number, Of int
	Takes      bool
}

// Scope has the names that are there. T is what a value's name stands for.
type Scope[T any] struct {
	means      func(Constructor) T
	around     []*structure[T] // one within the other, the last one innermost
	signatures map[string]*signature[T]
}

// structure has names of its own.
type structure[T any] struct {
	values     map[string]T
	structures map[string]*structure[T]
}

// New is a scope without names, in which a constructor stands for what a function says.
func New[T any](means func(Constructor) T) *Scope[T] {
	return &Scope[T]{
		means:      means,
		around:     []*structure[T]{newStructure[T]()},
		signatures: map[string]*signature[T]{},
	}
}

func newStructure[T any]() *structure[T] {
	return &structure[T]{values: map[string]T{}, structures: map[string]*structure[T]{}}
}

// inner is where names are declared.
func (s *Scope[T]) inner() *structure[T] { return s.around[len(s.around)-1] }

// Within forgets the names that a part of the program declares.
func (s *Scope[T]) Within(part func()) { s.declaredBy(part) }

// declaredBy is the names that a part of the program declares.
func (s *Scope[T]) declaredBy(part func()) *structure[T] {
	own := newStructure[T]()
	outside := len(s.around)
	s.around = append(s.around, own)
	part()
	s.around = s.around[:outside]
	return own
}

// Declare says what a value's name stands for from now on.
func (s *Scope[T]) Declare(name string, t T) { s.inner().values[name] = t }

// Find is what a value's path stands for.
func (s *Scope[T]) Find(path string) T {
	var none T
	if dot := strings.LastIndex(path, "."); dot >= 0 {
		return s.structureAt(path[:dot]).values[path[dot+1:]]
	}
	for _, l := range slices.Backward(s.around) {
		if t, ok := l.values[path]; ok {
			return t
		}
	}
	return none
}

func (s *Scope[T]) structureAt(path string) *structure[T] {
	name, rest, more := strings.Cut(path, ".")
	at := s.structureNamed(name)
	for more {
		name, rest, more = strings.Cut(rest, ".")
		at = at.structures[name]
	}
	return at
}

func (s *Scope[T]) structureNamed(name string) *structure[T] {
	for _, l := range slices.Backward(s.around) {
		if t, ok := l.structures[name]; ok {
			return t
		}
	}
	return newStructure[T]()
}

// Data declares the constructors of a data.
func (s *Scope[T]) Data(n api.Node) {
	for _, c := range constructors(n) {
		s.Declare(c.Name, s.means(c))
	}
}

// constructors is those of a data, in their order.
func constructors(n api.Node) []Constructor {
	var list []Constructor
	for _, b := range n.Kids {
		cons := b.Kids[b.N:]
		for i, k := range cons {
			list = append(list, Constructor{k.Name, i, len(cons), len(k.Kids) > 0})
		}
	}
	return list
}
