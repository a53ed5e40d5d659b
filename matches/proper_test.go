package matches

import (
	"math"
	"reflect"
	"slices"
	"testing"

	"mlcore/api"
)

// is holds Useful to an answer without a fault.
func is(t *testing.T, want bool, rows [][]api.Pat, row []api.Pat) {
	t.Helper()
	if got, f := Useful(rows, row); got != want || f != (api.Fault{}) {
		t.Errorf("%.300s: %v %v", shownAll(rows, row), got, f)
	}
}

// refuses holds Useful to the fault at a row.
func refuses(t *testing.T, at int, rows [][]api.Pat, row []api.Pat) {
	t.Helper()
	if got, f := Useful(rows, row); got || f != (api.Fault{Kind: api.ErrArg, At: at}) {
		t.Errorf("%.300s: %v %v, want the row %d", shownAll(rows, row), got, f, at)
	}
}

// holders is places where a pattern may stand in another one.
func holders(p api.Pat) []api.Pat {
	return []api.Pat{p, as(1, p), tuple(p, anything), tuple(number(1), named(2), p), con(0, 1, p), exn(3, p), con(1, 2, tuple(anything, as(4, exn(-1, p))))}
}

// A pattern that is not proper is refused wherever it stands.
func TestP8_1Improper(t *testing.T) {
	one, two := list(anything), list(anything, anything)
	var wrong []api.Pat
	for _, kind := range []int{api.PtAny, api.PtVar, api.PtInt, api.PtStr, api.PtAs, api.PtCon, api.PtExn} {
		wrong = append(wrong, api.Pat{Kind: kind, Of: 1, Kids: two})
	}
	for _, kind := range []int{api.PtAny, api.PtVar, api.PtInt, api.PtStr, api.PtTuple} {
		wrong = append(wrong, api.Pat{Kind: kind, Kids: one})
	}
	wrong = append(wrong, api.Pat{Kind: api.PtAs})
	for _, kind := range []int{-1, api.PtExn + 1, 1000, math.MaxInt, math.MinInt} {
		wrong = append(wrong, api.Pat{Kind: kind}, api.Pat{Kind: kind, Of: 1, Kids: one})
	}
	wrong = append(wrong, con(0, 0), con(-1, 2), con(2, 2), con(3, 2, anything), con(0, -1), con(-2, -1), con(math.MaxInt, math.MaxInt), con(math.MinInt, 1))
	for _, w := range wrong {
		for _, p := range holders(w) {
			refuses(t, 0, columns(p), one)
			refuses(t, 0, nil, list(p))
			refuses(t, 1, columns(anything, p, number(1)), one)
			refuses(t, 2, columns(anything, number(1)), list(p))
			refuses(t, 0, [][]api.Pat{list(anything, p)}, two)
			refuses(t, 0, nil, list(number(1), p))
		}
	}
}

// What a kind does not ask for makes no pattern less proper.
func TestP8_1Proper(t *testing.T) {
	for _, r := range []api.Pat{
		anything, named(0), named(-7), as(0, anything), as(-1, as(-1, named(3))), number(math.MinInt), number(math.MaxInt), text(""), text("\x00"), tuple(), tuple(anything, anything), tuple(many(20)...), con(0, 1), con(0, 1, anything), con(4, 5), con(math.MaxInt-1, math.MaxInt), exn(0), exn(math.MinInt), exn(math.MaxInt, anything),
		{Kind: api.PtAny, N: -1, Of: -1, At: -1, S: "a"}, {Kind: api.PtInt, Of: -5, S: "a"}, {Kind: api.PtTuple, N: 3, Of: -1, S: "a"}, {Kind: api.PtExn, Of: -1, S: "a"}, {Kind: api.PtCon, Of: 1, At: -9, S: "A"}, {Kind: api.PtStr, N: -1, Of: -1},
	} {
		for _, p := range holders(r) {
			is(t, true, nil, list(p))
			is(t, false, columns(p), list(p))
		}
	}
}

// All rows are as long as the last one.
func TestP8_1Long(t *testing.T) {
	refuses(t, 0, [][]api.Pat{many(1)}, nil)
	refuses(t, 0, [][]api.Pat{many(2), many(1)}, many(1))
	refuses(t, 1, [][]api.Pat{many(1), many(2)}, many(1))
	refuses(t, 2, [][]api.Pat{many(3), many(3), many(2)}, many(3))
	refuses(t, 0, [][]api.Pat{many(1), many(1)}, many(2))
	refuses(t, 1, [][]api.Pat{nil, many(1)}, nil)
	refuses(t, 0, [][]api.Pat{nil}, many(1))
	is(t, false, [][]api.Pat{nil, {}}, nil)
	is(t, false, [][]api.Pat{nil, {}}, list())
}

// There are at most MaxMatch parts, each counted: those of kids too.
func TestP8_1Parts(t *testing.T) {
	whole := api.MaxMatch
	is(t, true, nil, many(whole))
	refuses(t, 0, nil, many(whole+1))
	is(t, true, nil, list(tuple(many(whole-1)...)))
	refuses(t, 0, nil, list(tuple(many(whole)...)))
	is(t, false, [][]api.Pat{many(whole / 2)}, many(whole/2))
	refuses(t, 1, [][]api.Pat{many(whole/2 + 1)}, many(whole/2+1))
	refuses(t, 0, [][]api.Pat{many(whole + 1)}, many(whole+1))
	is(t, false, columns(many(whole-1)...), many(1))
	refuses(t, whole, columns(many(whole)...), many(1))
	refuses(t, whole, columns(many(whole+5)...), many(1))
	refuses(t, 2, columns(tuple(many(98)...), tuple(many(50)...), anything), many(1))
	refuses(t, 3, columns(tuple(many(98)...), tuple(many(49)...), anything), many(1))
	deep := anything
	for range whole - 2 {
		deep = as(1, deep)
	}
	is(t, false, columns(deep), many(1))
	refuses(t, 1, columns(as(1, deep)), many(1))
	refuses(t, 0, columns(as(1, as(2, deep))), many(1))
	for _, p := range []api.Pat{con(0, 1, anything), exn(1, anything), as(1, anything)} {
		is(t, true, nil, slices.Repeat(list(p), whole/2))
		refuses(t, 0, nil, append(slices.Repeat(list(p), whole/2), anything))
	}
	// Patterns of no parts are none, however many the rows.
	is(t, false, make([][]api.Pat, 100000), nil)
}

// The first row in which something is wrong is told, whatever is wrong there and behind it.
func TestP8_1First(t *testing.T) {
	wrong, full := tuple(anything), tuple(many(api.MaxMatch)...)
	refuses(t, 0, [][]api.Pat{{wrong}, {}}, many(1))
	refuses(t, 0, [][]api.Pat{{}, {wrong}}, many(1))
	refuses(t, 1, columns(anything, wrong, full), many(1))
	refuses(t, 1, columns(anything, full, wrong), many(1))
	refuses(t, 0, columns(full, wrong), list(wrong))
	refuses(t, 1, [][]api.Pat{{anything}, {full, wrong}, {wrong}}, many(1))
	refuses(t, 2, [][]api.Pat{{anything}, {number(1)}, {}}, list(wrong))
	refuses(t, 1, columns(tuple(many(148)...), wrong), many(1))
}

// What is handed over may be of any size, and stand within itself: there is an end.
func TestP1Endless(t *testing.T) {
	round := list(tuple(), anything)
	round[0].Kids = round
	chain := list(anything)
	chain[0] = as(1, anything)
	chain[0].Kids = chain
	for _, row := range [][]api.Pat{round, chain, list(tuple(many(1000000)...)), many(1000000)} {
		refuses(t, 0, nil, row)
		refuses(t, 0, [][]api.Pat{row}, row)
		refuses(t, 0, [][]api.Pat{row}, nil)
	}
	refuses(t, 1, [][]api.Pat{many(2), round}, many(2))
	deep := anything
	for range 100000 {
		deep = as(1, deep)
	}
	refuses(t, 1, columns(anything, deep), many(1))
}

func cloned(list []api.Pat) []api.Pat {
	l := slices.Clone(list)
	for i := range l {
		l[i].Kids = cloned(l[i].Kids)
	}
	return l
}

// What is handed over is only read, also where there is room behind it.
func TestP1Read(t *testing.T) {
	all := list(
		tuple(con(0, 2, anything), named(1)), con(1, 2), tuple(anything, con(0, 2, number(1))), anything,
		tuple(con(1, 2), as(2, anything)), con(0, 2, tuple(anything, text("a"))), anything, named(3), anything,
	)
	all[0].Kids = append(all[0].Kids, number(5), number(6))[:2]
	rows := [][]api.Pat{all[0:2], all[2:4], all[4:6]}
	before, kids := cloned(all), cloned(all[0].Kids[:4])
	for range 3 {
		is(t, true, rows, all[6:8])
		Useful(append(rows, all[7:9]), all[6:8])
		Useful(rows[:2], rows[2])
	}
	if !reflect.DeepEqual(all, before) || !reflect.DeepEqual(all[0].Kids[:4], kids) {
		t.Errorf("%s, was %s", shown(all), shown(before))
	}
}
