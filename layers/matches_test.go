package layers

import (
	"slices"
	"testing"

	"mlcore/api"
	"mlcore/core"
	"mlcore/matches"
)

// slowWarn tells the warnings of a term by the words of P8.3.
func slowWarn(t *testing.T, x api.Term) (list []api.Warning) {
	useful := func(ahead []api.Pat, p api.Pat) bool {
		var rows [][]api.Pat
		for _, o := range ahead {
			rows = append(rows, []api.Pat{o})
		}
		u, f := matches.Useful(rows, []api.Pat{p})
		if f != (api.Fault{}) {
			t.Fatalf("%v: %v", rows, f)
		}
		return u
	}
	wait := []api.Term{x}
	for len(wait) > 0 {
		x, wait = wait[0], wait[1:]
		wait = slices.Concat(x.Kids, wait)
		if !slices.Contains([]int{api.TCase, api.TFn, api.TLet, api.TTry}, x.Op) {
			continue
		}
		if x.Op != api.TTry && useful(x.Pats, api.Pat{}) {
			list = append(list, api.Warning{At: x.At, Kind: 1})
		}
		for i, p := range x.Pats {
			if !useful(x.Pats[:i], p) {
				list = append(list, api.Warning{At: p.At, Kind: 2})
			}
		}
	}
	return list
}

// Random programs have the warnings that their terms have. And these are true: what
// has no warning of kind 1 never lacks a case, a pattern with one of kind 2 is never chosen.
func TestP8_3Random(t *testing.T) {
	t.Parallel()
	kinds, lacks, chosen := map[int]int{}, 0, 0
	for seed := range 2500 {
		_, text, n, ok := random(seed)
		if !ok {
			continue
		}
		list, f := matches.Warn(text)
		if want := slowWarn(t, slowTermOf(n)); f != (api.Fault{}) || !slices.Equal(list, want) {
			t.Fatalf("%s: %v\n got %v\nwant %v", text, f, list, want)
		}
		for _, w := range list {
			kinds[w.Kind]++
		}
		x, _ := core.Core(text)
		watchedTerm(x, 3000, func(x api.Term, i int) {
			switch {
			case i >= 0 && slices.Contains(list, api.Warning{At: x.Pats[i].At, Kind: 2}):
				t.Errorf("%s: %v at %d is chosen", text, x.Pats[i], x.Pats[i].At)
			case i >= 0:
				chosen++
			case x.Op != api.TTry && !slices.Contains(list, api.Warning{At: x.At, Kind: 1}):
				t.Errorf("%s: %v at %d lacks a case", text, x.Pats, x.At)
			default:
				lacks++
			}
		})
	}
	if kinds[1] < 1000 || kinds[2] < 1000 || lacks < 100 || chosen < 1000 {
		t.Errorf("warnings %v, %d matches without a case, %d with one", kinds, lacks, chosen)
	}
}
