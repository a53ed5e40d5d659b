package plain

import (
	"slices"

	"mlcore/api"
)

// rules asks patterns of a variable's value, in their order, and goes on with the
// term of the first one that matches, or otherwise, if none does. Behind a pattern
// that always matches the others are left out: they never come.
func (m *maker) rules(v int, pats []api.Pat, then []api.Term, otherwise api.Term) api.Term {
	for i, p := range slices.Backward(pats) {
		rule := m.asked(p, v, then[i])
		if hasPart(p, decides) {
			rule = api.Term{Op: api.TCatch, At: p.At, Kids: []api.Term{rule, otherwise}}
		}
		otherwise = rule
	}
	return otherwise
}

// asked asks a pattern of a variable's value, from the left, and goes on if it
// matches; it fails if not. It is made from the right: what comes then is innermost.
func (m *maker) asked(p api.Pat, v int, then api.Term) api.Term {
	switch p.Kind {
	case api.PtVar:
		return binding(api.TLet, p.At, p.N, variable(p.At, v), then)
	case api.PtAs:
		return binding(api.TLet, p.At, p.N, variable(p.At, v), m.asked(p.Kids[0], v, then))
	}
	for i, kid := range slices.Backward(p.Kids) {
		then = m.askedField(kid, field(kid.At, fieldOf(p, i), v), then)
	}
	if !decides(p) {
		return then
	}
	fails := api.Term{Op: api.TFail, At: p.At}
	return api.Term{Op: api.TIf, At: p.At, Kids: []api.Term{question(p, v), then, fails}}
}

// askedField asks a pattern of a field, which is read once.
func (m *maker) askedField(p api.Pat, from, then api.Term) api.Term {
	if idle(p) {
		return then
	}
	v, left := m.held(p)
	return binding(api.TLet, p.At, v, from, m.asked(left, v, then))
}

// fieldOf is the number of the field that a kid of a pattern is asked of: in a value
// of an exception the exception stands ahead of its argument.
func fieldOf(p api.Pat, kid int) int {
	if p.Kind == api.PtExn {
		return kid + 1
	}
	return kid
}

// held is a variable for what a pattern is matched with, its own if it names that,
// and what is left of the pattern then.
func (m *maker) held(p api.Pat) (v int, left api.Pat) {
	switch p.Kind {
	case api.PtVar:
		return p.N, api.Pat{}
	case api.PtAs:
		return p.N, p.Kids[0]
	}
	return m.next(), p
}

// question asks what a pattern that decides asks by itself.
func question(p api.Pat, v int) api.Term {
	of := variable(p.At, v)
	switch p.Kind {
	case api.PtStr:
		return api.Term{Op: api.TOp, At: p.At, S: "=", Kids: []api.Term{of, {Op: api.TStr, At: p.At, S: p.S}}}
	case api.PtExn:
		return api.Term{Op: api.TSame, At: p.At, Kids: []api.Term{field(p.At, 0, v), variable(p.At, p.N)}}
	}
	is := api.Term{Op: api.TIs, At: p.At, N: p.N, Kids: []api.Term{of}}
	if len(p.Kids) > 0 {
		is.Of = aBlock
	}
	return is
}

// aBlock is the Of of a TIs that asks for a block.
const aBlock = 1

// decides asks whether a pattern by itself, without its kids, may not match.
func decides(p api.Pat) bool {
	switch p.Kind {
	case api.PtInt, api.PtStr, api.PtExn:
		return true
	case api.PtCon:
		return p.Of > 1
	}
	return false
}

func names(p api.Pat) bool { return p.Kind == api.PtVar || p.Kind == api.PtAs }

// idle asks whether a pattern says nothing: it always matches and names nothing.
func idle(p api.Pat) bool {
	return !hasPart(p, func(p api.Pat) bool { return decides(p) || names(p) })
}

func hasPart(p api.Pat, so func(api.Pat) bool) bool {
	return so(p) || slices.ContainsFunc(p.Kids, func(kid api.Pat) bool { return hasPart(kid, so) })
}
