package matches

import (
	"slices"
	"testing"

	"mlcore/api"
)

// shape is a type: of numbers, strings, tuples of its parts, a data's constructors or
// exceptions, each with an argument or without (nil). Kind is that of the patterns that
// ask for its values.
type shape struct {
	kind  int
	parts []*shape
}

func (r random) shape(depth int) *shape {
	kinds := []int{api.PtInt, api.PtStr, api.PtExn, api.PtTuple, api.PtTuple, api.PtCon, api.PtCon, api.PtCon}
	s := &shape{kind: kinds[r.Intn(len(kinds))]}
	switch {
	case s.kind == api.PtTuple && depth > 0 && r.Intn(5) > 0:
		s.parts = []*shape{r.shape(depth - 1), r.shape(depth - 1)}
	case s.kind == api.PtCon || s.kind == api.PtExn:
		for range 1 + r.Intn(3) {
			s.parts = append(s.parts, nil)
			if depth > 0 && r.Intn(2) == 0 {
				s.parts[len(s.parts)-1] = r.shape(depth - 1)
			}
		}
	}
	return s
}

// values is all values of a type, each written as the pattern that asks for it alone.
// Of numbers, strings and exceptions they are those that patterns ask for, and one more.
func (s *shape) values() (all []api.Pat) {
	switch s.kind {
	case api.PtInt:
		return list(number(0), number(1), number(2))
	case api.PtStr:
		return list(text(""), text("a"), text("b"))
	case api.PtTuple:
		for _, l := range lists(s.parts) {
			all = append(all, tuple(l...))
		}
		return all
	case api.PtExn:
		all = append(all, exn(-1))
	}
	for n, p := range s.parts {
		if p == nil {
			all = append(all, api.Pat{Kind: s.kind, N: n, Of: len(s.parts)})
			continue
		}
		for _, v := range p.values() {
			all = append(all, api.Pat{Kind: s.kind, N: n, Of: len(s.parts), Kids: list(v)})
		}
	}
	return all
}

// lists is all lists of values of some types.
func lists(shapes []*shape) [][]api.Pat {
	all := [][]api.Pat{nil}
	for _, s := range shapes {
		var longer [][]api.Pat
		for _, l := range all {
			for _, v := range s.values() {
				longer = append(longer, append(slices.Clip(l), v))
			}
		}
		all = longer
	}
	return all
}

// of is a random pattern of a type.
func (r random) of(s *shape) api.Pat {
	switch r.Intn(9) {
	case 0, 1:
		return anything
	case 2:
		return named(r.Intn(3))
	case 3:
		return as(r.Intn(3), r.of(s))
	}
	switch s.kind {
	case api.PtInt:
		return number(r.Intn(2))
	case api.PtStr:
		return text([]string{"", "a"}[r.Intn(2)])
	case api.PtTuple:
		return tuple(r.row(s.parts)...)
	}
	n := r.Intn(len(s.parts))
	p := api.Pat{Kind: s.kind, N: n, Of: len(s.parts)}
	if s.parts[n] != nil {
		p.Kids = list(r.of(s.parts[n]))
	}
	return p
}

func (r random) row(shapes []*shape) (l []api.Pat) {
	for _, s := range shapes {
		l = append(l, r.of(s))
	}
	return l
}

// matched asks whether a row matches values.
func matched(row, values []api.Pat) bool {
	for i, p := range row {
		v := values[i]
		switch p.Kind {
		case api.PtAny, api.PtVar:
			continue
		case api.PtAs:
			if !matched(p.Kids, list(v)) {
				return false
			}
			continue
		}
		if p.N != v.N || p.S != v.S || !matched(p.Kids, v.Kids) {
			return false
		}
	}
	return true
}

// Where rows are patterns of one type, the last one is useful just if it matches values that the others do not.
func TestP8_2Values(t *testing.T) {
	answers := map[bool]int{}
	for seed := range 20000 {
		r := newRandom(seed)
		var shapes []*shape
		for range 1 + r.Intn(3) {
			shapes = append(shapes, r.shape(2))
		}
		all := lists(shapes)
		if len(all) > 3000 {
			continue
		}
		var rows [][]api.Pat
		for range r.Intn(9) {
			rows = append(rows, r.row(shapes))
		}
		row := r.row(shapes)
		got, f := Useful(rows, row)
		want := slices.ContainsFunc(all, func(values []api.Pat) bool {
			return matched(row, values) && !slices.ContainsFunc(rows, func(o []api.Pat) bool { return matched(o, values) })
		})
		if f.Kind == api.OK && got != want {
			t.Fatalf("%s: %v, want %v", shownAll(rows, row), got, want)
		}
		answers[got]++
	}
	if answers[true] < 4000 || answers[false] < 4000 {
		t.Errorf("%v", answers)
	}
}
