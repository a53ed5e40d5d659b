package scopes

import (
	"maps"

	"mlcore/api"
)

// signature is the names that a signature names. A constructor is one by itself:
// another name of the structure may hide the one that is meant.
type signature[T any] struct {
	values     []string
	cons       []Constructor
	structures []asked[T]
}

// asked is a structure that a signature asks for.
type asked[T any] struct {
	name string
	sig  *signature[T]
}

// Structure declares a structure. Declarations that are written out in it are
// handed on, to be gone through where they stand.
func (s *Scope[T]) Structure(n api.Node, decs func([]api.Node)) {
	has := s.content(n.Kids[len(n.Kids)-1], decs)
	if n.N > 0 {
		has = s.shown(has, s.signatureOf(n.Kids[0]))
	}
	s.inner().structures[n.Name] = has
}

func (s *Scope[T]) content(n api.Node, decs func([]api.Node)) *structure[T] {
	if n.Kind == api.SPath {
		return s.structureAt(n.Name)
	}
	return s.declaredBy(func() { decs(n.Kids) })
}

// Signature declares a signature.
func (s *Scope[T]) Signature(n api.Node) {
	s.signatures[n.Name] = s.signatureOf(n.Kids[0])
}

func (s *Scope[T]) signatureOf(n api.Node) *signature[T] {
	if n.Kind == api.GName {
		return s.signatures[n.Name]
	}
	sig := &signature[T]{}
	for _, k := range n.Kids {
		switch k.Kind {
		case api.GVal, api.DExn:
			sig.values = append(sig.values, k.Name)
		case api.DData:
			sig.cons = append(sig.cons, constructors(k)...)
		case api.GStruct:
			sig.structures = append(sig.structures, asked[T]{k.Name, s.signatureOf(k.Kids[0])})
		}
	}
	return sig
}

// shown is what a signature shows of a structure.
func (s *Scope[T]) shown(has *structure[T], sig *signature[T]) *structure[T] {
	all := newStructure[T]()
	for _, name := range sig.values {
		all.values[name] = has.values[name]
	}
	for _, c := range sig.cons {
		all.values[c.Name] = s.means(c)
	}
	for _, a := range sig.structures {
		all.structures[a.name] = s.shown(has.structures[a.name], a.sig)
	}
	return all
}

// Open declares the names of a structure.
func (s *Scope[T]) Open(path string) {
	from, to := s.structureAt(path), s.inner()
	maps.Copy(to.values, from.values)
	maps.Copy(to.structures, from.structures)
}
