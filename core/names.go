package core

import (
	"mlcore/api"
	"mlcore/scopes"
)

// known is what a name stands for: its term, but for the place. Takes: it is a
// constructor or an exception that has an argument.
type known struct {
	term  api.Term
	takes bool
}

// maker makes terms of a program that has types.
type maker struct {
	*scopes.Scope[known]
	last int // the last number that was given
}

// newMaker has the names that are there from the beginning.
func newMaker() *maker {
	m := &maker{Scope: scopes.New(constructed)}
	for _, name := range []string{"not", "print", "str", "size", "sub", "part", "chr", "ref", "array", "length", "at", "put"} {
		m.Declare(name, known{term: api.Term{Op: api.TBase, S: name}})
	}
	for _, c := range []scopes.Constructor{falseOfBool(), trueOfBool()} {
		m.Declare(c.Name, constructed(c))
	}
	for i, name := range []string{"Match", "Bind", "Overflow", "Div", "Bounds", "Size"} {
		m.Declare(name, known{term: api.Term{Op: api.TExn, N: -1 - i}})
	}
	return m
}

func constructed(c scopes.Constructor) known {
	return known{api.Term{Op: api.TCon, S: c.Name, N: c.Number, Of: c.Of}, c.Takes}
}

// next is a number that was not given yet.
func (m *maker) next() int {
	m.last++
	return m.last
}

// variable declares a name, which has the next number.
func (m *maker) variable(name string) int {
	number := m.next()
	m.Declare(name, known{term: api.Term{Op: api.TVar, N: number}})
	return number
}

// The constructors that no data declares.

func falseOfBool() scopes.Constructor { return scopes.Constructor{Name: "false", Number: 0, Of: 2} }

func trueOfBool() scopes.Constructor { return scopes.Constructor{Name: "true", Number: 1, Of: 2} }

func endOfList() scopes.Constructor { return scopes.Constructor{Name: "[]", Number: 0, Of: 2} }

func consOfList() scopes.Constructor {
	return scopes.Constructor{Name: "::", Number: 1, Of: 2, Takes: true}
}
