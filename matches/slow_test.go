package matches

import (
	"slices"

	"mlcore/api"
)

// What Useful answers, by the words of P8.1 and P8.2, one after the other.

func slowAnswer(rows [][]api.Pat, row []api.Pat) (bool, api.Fault) {
	parts := 0
	for i, r := range append(slices.Clone(rows), row) {
		for _, p := range r {
			parts += slowParts(p)
		}
		if len(r) != len(row) || slices.ContainsFunc(r, func(p api.Pat) bool { return !slowProper(p) }) || parts > api.MaxMatch {
			return false, api.Fault{Kind: api.ErrArg, At: i}
		}
	}
	return slowUseful(rows, row), api.Fault{}
}

func slowParts(p api.Pat) int {
	n := 1
	for _, k := range p.Kids {
		n += slowParts(k)
	}
	return n
}

func slowProper(p api.Pat) bool {
	least := map[int]int{api.PtAny: 0, api.PtVar: 0, api.PtInt: 0, api.PtStr: 0, api.PtAs: 1, api.PtTuple: 0, api.PtCon: 0, api.PtExn: 0}
	most := map[int]int{api.PtAs: 1, api.PtTuple: 1 << 40, api.PtCon: 1, api.PtExn: 1}
	from, known := least[p.Kind]
	switch {
	case !known, len(p.Kids) < from, len(p.Kids) > most[p.Kind]:
		return false
	case p.Kind == api.PtTuple && len(p.Kids) == 1:
		return false
	case p.Kind == api.PtCon && (p.N < 0 || p.N >= p.Of):
		return false
	}
	return !slices.ContainsFunc(p.Kids, func(k api.Pat) bool { return !slowProper(k) })
}

// bare is a pattern without the names that it gives.
func bare(p api.Pat) api.Pat {
	for p.Kind == api.PtAs {
		p = p.Kids[0]
	}
	if p.Kind == api.PtVar {
		return anything
	}
	return p
}

func slowUseful(rows [][]api.Pat, row []api.Pat) bool {
	if len(row) == 0 {
		return len(rows) == 0
	}
	if first := bare(row[0]); first.Kind != api.PtAny {
		return slowBehind(first, rows, row)
	}
	var heads []api.Pat
	var rests [][]api.Pat
	for _, r := range rows {
		first := bare(r[0])
		switch {
		case first.Kind == api.PtAny:
			rests = append(rests, r[1:])
		case !slices.ContainsFunc(heads, func(h api.Pat) bool { return slowAlike(h, first) }):
			heads = append(heads, first)
		}
	}
	if !slowAll(heads) {
		return slowUseful(rests, row[1:])
	}
	return slices.ContainsFunc(heads, func(h api.Pat) bool { return slowBehind(h, rows, row) })
}

func slowAlike(a, b api.Pat) bool {
	if a.Kind != b.Kind || len(a.Kids) != len(b.Kids) {
		return false
	}
	switch a.Kind {
	case api.PtTuple:
		return true
	case api.PtStr:
		return a.S == b.S && a.N == b.N
	}
	return a.N == b.N
}

func slowAll(heads []api.Pat) bool {
	if len(heads) == 0 {
		return false
	}
	if heads[0].Kind == api.PtTuple {
		return true
	}
	if heads[0].Kind != api.PtCon {
		return false
	}
	for n := range heads[0].Of {
		if !slices.ContainsFunc(heads, func(h api.Pat) bool { return h.Kind == api.PtCon && h.N == n }) {
			return false
		}
	}
	return true
}

func slowBehind(h api.Pat, rows [][]api.Pat, row []api.Pat) bool {
	var left [][]api.Pat
	for _, r := range rows {
		if r, ok := slowRow(h, r); ok {
			left = append(left, r)
		}
	}
	row, _ = slowRow(h, row)
	return slowUseful(left, row)
}

func slowRow(h api.Pat, row []api.Pat) ([]api.Pat, bool) {
	first := bare(row[0])
	switch {
	case first.Kind == api.PtAny:
		return append(many(len(h.Kids)), row[1:]...), true
	case slowAlike(h, first):
		return append(slices.Clone(first.Kids), row[1:]...), true
	}
	return nil, false
}
