package infer

import (
	"slices"

	"mlcore/api"
	"mlcore/types"
)

// matching holds a structure against a signature.
type matching struct {
	*checker
	becoming
	at api.Node
}

// match is what a signature shows of a structure that is declared at a node.
func (c *checker) match(s, sig *structure, at api.Node) *structure {
	m := matching{c, becoming{}, at}
	m.whole(s, sig)
	if at.N == hides {
		return c.anew(sig, c.path)
	}
	return m.view(sig, nil)
}

// hides is the N of a structure's declaration with :>, behind which its types are not to be seen.
const hides = 2

// whole goes through a signature's names twice: what types and structures there
// are comes ahead of what their constructors and the values are.
func (m matching) whole(s, sig *structure) {
	for _, k := range sig.order {
		asked, _ := sig.thing(k)
		m.first(k, s, asked)
	}
	for _, k := range sig.order {
		asked, _ := sig.thing(k)
		m.second(k, s, asked)
	}
}

func (m matching) must(ok bool, kind api.Errno) {
	if !ok {
		m.fail(kind, m.at)
	}
}

func (m matching) first(k key, s *structure, asked thing) {
	if k.sort == valueName {
		return
	}
	has, ok := s.thing(k)
	m.must(ok, api.ErrLess)
	if k.sort == structureName {
		m.whole(has.structure, asked.structure)
		return
	}
	m.must(has.family.params == asked.family.params, api.ErrOther)
	if asked.family.own {
		m.becoming[asked.family.typ.N] = has.family
		return
	}
	m.must(m.alike(asked.family.typ, has.family.typ), api.ErrOther)
}

// alike asks whether a type of the signature is one of the structure.
func (m matching) alike(asked, has api.Type) bool {
	t, ok := m.said(asked)
	return ok && types.Alike(t, has)
}

func (m matching) second(k key, s *structure, asked thing) {
	has, ok := s.thing(k)
	switch {
	case k.sort == typeName && len(asked.family.cons) > 0:
		m.must(slices.EqualFunc(asked.family.cons, has.family.cons, m.sameConstructor), api.ErrOther)
	case k.sort == valueName && asked.value.by != byData:
		m.must(ok, api.ErrLess)
		m.must(has.value.by == asked.value.by && m.asGeneral(has.value, asked.value), api.ErrOther)
	}
}

func (m matching) sameConstructor(asked, has found) bool {
	if asked.name != has.name || takes(asked.typ) != takes(has.typ) {
		return false
	}
	return !takes(asked.typ) || m.alike(asked.typ.Args[0], has.typ.Args[0])
}

// asGeneral asks whether a value's type is as general as the one that is asked
// for. What stands for any type there is a type like no other here, which
// nothing that is open in the program may hold.
func (m matching) asGeneral(has, asked value) bool {
	t, ok := m.said(asked.typ)
	first := m.made
	if !ok || m.Same(m.instance(has.typ), m.unlike(t)) != api.OK {
		return false
	}
	return !has.open || !m.hasMade(has.typ, first)
}

// unlike is a type with one like no other for each variable.
func (c *checker) unlike(t api.Type) api.Type {
	made := map[int]api.Type{}
	return eachVariable(t, func(v api.Type) api.Type {
		if _, ok := made[v.N]; !ok {
			made[v.N] = api.Type{Kind: api.TyCon, N: c.number(), Eq: v.Eq}
		}
		return made[v.N]
	})
}

// hasMade asks whether a type has a part by now that was made behind the first so many.
func (c *checker) hasMade(t api.Type, first int) bool {
	t = c.Top(t)
	if t.Kind == api.TyCon && t.N > first {
		return true
	}
	return slices.ContainsFunc(t.Args, func(a api.Type) bool { return c.hasMade(a, first) })
}
