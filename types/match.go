package types

import (
	"maps"
	"slices"

	"mlcore/api"
)

// Match makes a general type a special one.
func Match(general, special api.Type) ([]api.Bind, bool) {
	if !Proper(general) || !Proper(special) {
		return nil, false
	}
	m := matcher{takes: map[int]api.Type{}, eq: comparing{}}
	eachVariable(general, m.eq.meet)
	if !m.match(general, special) {
		return nil, false
	}
	var list []api.Bind
	for _, n := range slices.Sorted(maps.Keys(m.takes)) {
		list = append(list, api.Bind{N: n, T: anew(m.takes[n])})
	}
	return list, true
}

// matcher knows what the variables of a general type take.
type matcher struct {
	takes map[int]api.Type
	eq    comparing
}

func (m *matcher) match(general, special api.Type) bool {
	if general.Kind == api.TyVar {
		return m.take(general.N, special)
	}
	return sameTop(general, special) && slices.EqualFunc(general.Args, special.Args, m.match)
}

// take lets a variable take a type, which has to be what it took before.
func (m *matcher) take(n int, t api.Type) bool {
	if m.eq[n] == 1 && !compared(t, saysCompared) {
		return false
	}
	taken, ok := m.takes[n]
	if !ok {
		m.takes[n] = t
		return true
	}
	return alike(taken, t)
}
