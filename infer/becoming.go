package infer

import "mlcore/api"

// becoming has what open types of a signature have become, by their numbers.
type becoming map[int]family

// said is a type that is said by what the open types have become, unless it has
// more parts than a type may have.
func (b becoming) said(t api.Type) (api.Type, bool) { return b.saidIn(t, api.MaxType) }

func (b becoming) saidIn(t api.Type, most int) (api.Type, bool) {
	left := most
	t = b.write(t, &left, func(v api.Type) api.Type {
		left--
		return v
	})
	return t, left >= 0
}

// write puts a type together from outside: what a type does not take of its row
// is not gone through. The parts are counted down, for one open type after the
// other may double them.
func (b becoming) write(t api.Type, left *int, variable func(api.Type) api.Type) api.Type {
	if t.Kind == api.TyVar {
		return variable(t)
	}
	if f, ok := b[t.N]; ok && t.Kind == api.TyCon {
		return b.write(f.typ, left, func(v api.Type) api.Type {
			return b.write(t.Args[placeOf(v)], left, variable)
		})
	}
	*left--
	if *left < 0 {
		return unitType()
	}
	args := make([]api.Type, len(t.Args))
	for i, a := range t.Args {
		args[i] = b.write(a, left, variable)
	}
	t.Args = args
	return t
}

// view is a signature whose open types have become so: a structure. What its
// names stand for is found when it is asked for, so that those which are never
// asked for take no time.
func (b becoming) view(sig *structure, made []madeType) *structure {
	return &structure{names: map[key]thing{}, order: sig.order, count: sig.count, made: made, of: sig, by: b}
}

// thing is what a name of a signature stands for in its view.
func (b becoming) thing(k key, t thing) thing {
	switch k.sort {
	case valueName:
		t.value.typ = b.shown(t.value.typ)
	case typeName:
		t.family = b.family(t.family)
	case structureName:
		t.structure = b.view(t.structure, nil)
	}
	return t
}

// shown is said for a type that is known to be not too great. That of a
// constructor may be greater than others: it has its argument in it.
func (b becoming) shown(t api.Type) api.Type {
	t, _ = b.saidIn(t, mostNodes)
	return t
}

// family is what a type's name stands for. It has constructors only if the
// signature shows them.
func (b becoming) family(f family) family {
	if !f.own {
		f.typ = b.shown(f.typ)
		return f
	}
	cons := make([]found, len(f.cons))
	for i, k := range f.cons {
		k.typ = b.shown(k.typ)
		cons[i] = k
	}
	f = b[f.typ.N]
	f.cons = cons
	return f
}
