package matches

import (
	"math/rand"
	"testing"

	"mlcore/api"
)

// random makes random patterns, of any types or of one.
type random struct{ *rand.Rand }

func newRandom(seed int) random { return random{rand.New(rand.NewSource(int64(seed)))} }

// pat is a proper pattern of no type.
func (r random) pat(depth int) api.Pat {
	kid := func() api.Pat { return r.pat(depth - 1) }
	kids := func(n int) (l []api.Pat) {
		for range n {
			l = append(l, kid())
		}
		return l
	}
	n := r.Intn(16)
	if depth <= 0 {
		n %= 8
	}
	switch {
	case n < 2:
		return anything
	case n < 3:
		return named(r.Intn(3))
	case n < 4:
		return number(r.Intn(2))
	case n < 5:
		return api.Pat{Kind: api.PtStr, S: []string{"", "a"}[r.Intn(2)], N: r.Intn(5) / 4}
	case n < 6:
		return tuple()
	case n < 8:
		of := 1 + r.Intn(2)
		return con(r.Intn(of), of)
	case n < 9:
		return as(r.Intn(3), kid())
	case n < 12:
		return tuple(kids(2 + r.Intn(5)/4)...)
	case n < 15:
		of := 1 + r.Intn(3)
		return con(r.Intn(of), of, kids(1)...)
	}
	return exn(r.Intn(2), kids(r.Intn(2))...)
}

// like is a pattern that has much of another one.
func (r random) like(p api.Pat) api.Pat {
	if r.Intn(6) == 0 {
		return r.pat(2)
	}
	kids := p.Kids
	p.Kids = nil
	for _, k := range kids {
		p.Kids = append(p.Kids, r.like(k))
	}
	return p
}

func (r random) rows() ([][]api.Pat, []api.Pat) {
	width := r.Intn(4)
	var rows [][]api.Pat
	for i := range 1 + r.Intn(7) {
		var row []api.Pat
		for c := range width {
			p := r.pat(3)
			if i > 0 && r.Intn(3) > 0 {
				p = r.like(rows[r.Intn(i)][c])
			}
			row = append(row, p)
		}
		rows = append(rows, row)
	}
	last := len(rows) - 1
	if r.Intn(2) == 0 {
		return rows[:last], many(width)
	}
	return rows[:last], rows[last]
}

// Random rows of any patterns are answered as the rules say.
func TestP8_2Random(t *testing.T) {
	answers := map[bool]int{}
	for seed := range 60000 {
		rows, row := newRandom(seed).rows()
		want, fault := slowAnswer(rows, row)
		got, f := Useful(rows, row)
		if got != want || f != fault {
			t.Fatalf("%s\n got %v %v\nwant %v %v", shownAll(rows, row), got, f, want, fault)
		}
		if f == (api.Fault{}) {
			answers[got]++
		}
	}
	if answers[true] < 10000 || answers[false] < 10000 {
		t.Errorf("%v", answers)
	}
}

// Random rows in which something may be wrong are refused as the rules say.
func TestP8_1Random(t *testing.T) {
	faults := map[int]int{}
	for seed := range 30000 {
		r := newRandom(seed)
		rows, row := r.rows()
		all := append(rows[:len(rows):len(rows)], cloned(row))
		for range r.Intn(4) {
			r.spoil(all[r.Intn(len(all))])
		}
		if i := r.Intn(len(all)); r.Intn(4) == 0 {
			all[i] = append(all[i], anything)
		}
		if i := r.Intn(len(all)); r.Intn(4) == 0 && len(all[i]) > 0 {
			all[i][0] = tuple(append(many(1+r.Intn(140)), all[i][0])...)
		}
		rows, row = all[:len(rows)], all[len(rows)]
		want, fault := slowAnswer(rows, row)
		got, f := Useful(rows, row)
		if got != want || f != fault {
			t.Fatalf("%s\n got %v %v\nwant %v %v", shownAll(rows, row), got, f, want, fault)
		}
		if f.Kind != api.OK {
			faults[f.At]++
		}
	}
	for at := range 6 {
		if faults[at] < 100 {
			t.Errorf("%d faults at the row %d", faults[at], at)
		}
	}
}

// spoil changes something in a pattern.
func (r random) spoil(list []api.Pat) {
	if len(list) == 0 {
		return
	}
	p := &list[r.Intn(len(list))]
	switch r.Intn(6) {
	case 0:
		p.Kind = r.Intn(11) - 1
	case 1:
		p.N = r.Intn(5) - 1
	case 2:
		p.Of = r.Intn(3)
	case 3:
		p.Kids = append(p.Kids[:len(p.Kids):len(p.Kids)], anything)
	case 4:
		p.Kids = p.Kids[:len(p.Kids)/2]
	default:
		p.Kids = cloned(p.Kids)
		r.spoil(p.Kids)
	}
}
