package matches

import (
	"math"
	"slices"
	"testing"

	"mlcore/api"
)

func TestP8_2NoPatterns(t *testing.T) {
	is(t, true, nil, nil)
	is(t, true, [][]api.Pat{}, list())
	is(t, false, [][]api.Pat{{}}, nil)
	is(t, false, [][]api.Pat{{}, {}, nil}, nil)
	is(t, true, nil, list(anything))
	is(t, true, nil, list(con(0, 2, number(1)), anything, tuple()))
}

// The row asks for a head: what others ask for behind it counts.
func TestP8_2Head(t *testing.T) {
	is(t, true, columns(number(1)), list(number(2)))
	is(t, false, columns(number(1)), list(number(1)))
	is(t, false, columns(number(2), anything), list(number(1)))
	is(t, true, columns(text("a")), list(text("b")))
	is(t, false, columns(text("a")), list(text("a")))
	is(t, true, columns(con(0, 2, number(1))), list(con(0, 2, number(2))))
	is(t, true, columns(con(0, 2, number(1))), list(con(1, 2, number(1))))
	is(t, true, columns(con(0, 2, number(1))), list(con(0, 2, anything)))
	is(t, false, columns(con(0, 2, number(1)), con(0, 2, anything)), list(con(0, 2, number(3))))
	is(t, true, columns(exn(-1), exn(2, number(1))), list(exn(2, number(2))))
	is(t, false, columns(exn(-1), exn(2, anything)), list(exn(2, number(2))))
	is(t, true, columns(exn(1), exn(-2)), list(exn(-1)))
	is(t, false, columns(tuple()), list(tuple()))
	is(t, true, columns(tuple(number(1), number(2))), list(tuple(number(1), number(3))))
	is(t, false, columns(tuple(number(1), anything)), list(tuple(number(1), number(3))))
	// The kids stand ahead of the rest.
	is(t, true, [][]api.Pat{{tuple(number(1), number(2)), number(3)}}, list(tuple(number(1), number(2)), number(4)))
	is(t, true, [][]api.Pat{{tuple(number(1), number(2)), number(3)}}, list(tuple(number(2), number(1)), number(3)))
	is(t, false, [][]api.Pat{{tuple(number(1), anything), number(3)}, {tuple(anything, number(2)), anything}}, list(tuple(number(5), number(2)), number(4)))
	// PtAny becomes as many as the head has kids.
	is(t, false, [][]api.Pat{{anything, number(3)}}, list(tuple(number(1), number(2), tuple()), number(3)))
	is(t, true, [][]api.Pat{{anything, number(3)}}, list(tuple(number(1), number(2), tuple()), number(4)))
	is(t, false, [][]api.Pat{{anything, number(3)}}, list(con(0, 2), number(3)))
	is(t, false, [][]api.Pat{{anything, number(3)}}, list(exn(4, number(1)), number(3)))
}

// The row asks for nothing, and the heads are all.
func TestP8_2All(t *testing.T) {
	is(t, false, columns(con(0, 1)), list(anything))
	is(t, false, columns(con(1, 2), con(0, 2)), list(anything))
	is(t, false, columns(con(1, 3), con(2, 3, anything), con(0, 3)), list(anything))
	is(t, true, columns(con(1, 3), con(0, 3)), list(anything))
	is(t, true, columns(con(1, 3), con(1, 3), con(0, 3)), list(anything))
	is(t, true, columns(con(0, 2), con(1, 2, number(1))), list(anything))
	is(t, false, columns(con(0, 2), con(1, 2, number(1)), con(1, 2, anything)), list(anything))
	is(t, false, columns(tuple()), list(anything))
	is(t, false, columns(tuple(anything, anything)), list(anything))
	is(t, true, columns(tuple(anything, number(1))), list(anything))
	is(t, false, columns(tuple(con(0, 2), anything), tuple(anything, con(0, 2)), tuple(con(1, 2), con(1, 2))), list(anything))
	is(t, true, columns(tuple(con(0, 2), anything), tuple(anything, con(0, 2))), list(anything))
	is(t, true, [][]api.Pat{{con(0, 2), number(1)}, {con(1, 2), number(2)}}, list(anything, number(1)))
	is(t, false, [][]api.Pat{{con(0, 2), number(1)}, {con(1, 2), number(1)}}, list(anything, number(1)))
	is(t, false, [][]api.Pat{{con(0, 2), number(1)}, {anything, number(2)}, {con(1, 2), number(1)}}, list(anything, number(2)))
}

// The row asks for nothing, and the heads are not all: rows that begin with another pattern than PtAny do not count.
func TestP8_2NotAll(t *testing.T) {
	is(t, true, columns(number(1), number(2)), list(anything))
	is(t, false, columns(number(1), number(2), anything), list(anything))
	is(t, true, columns(text("a"), text("")), list(anything))
	is(t, true, columns(exn(-1), exn(-2), exn(-3), exn(-4), exn(-5), exn(-6), exn(1, anything)), list(anything))
	is(t, false, columns(exn(-1), anything), list(anything))
	is(t, true, [][]api.Pat{{number(1), number(1)}, {anything, number(2)}}, list(anything, number(1)))
	is(t, false, [][]api.Pat{{number(1), number(1)}, {anything, number(2)}}, list(anything, number(2)))
	is(t, true, [][]api.Pat{{number(1), anything}, {anything, con(0, 2)}}, list(anything, anything))
	is(t, false, [][]api.Pat{{number(1), anything}, {anything, con(0, 2)}, {anything, con(1, 2)}}, list(anything, anything))
	is(t, false, [][]api.Pat{{anything, anything}}, list(anything, anything))
	is(t, true, columns(con(0, math.MaxInt), con(math.MaxInt-1, math.MaxInt)), list(anything))
}

// Names are left out.
func TestP8_2Names(t *testing.T) {
	is(t, false, columns(named(1)), list(named(2)))
	is(t, false, columns(named(1)), list(number(2)))
	is(t, true, columns(number(1)), list(named(1)))
	is(t, false, columns(as(1, as(2, named(3)))), list(anything))
	is(t, false, columns(as(1, number(2))), list(number(2)))
	is(t, false, columns(number(2)), list(as(1, as(4, number(2)))))
	is(t, true, columns(as(1, number(2))), list(as(1, number(3))))
	is(t, false, columns(as(1, con(0, 2)), as(1, con(1, 2, as(3, named(2))))), list(named(5)))
	is(t, false, columns(con(0, 2, as(1, anything))), list(con(0, 2, as(2, number(1)))))
}

// Alike: the same Kind and as many Kids, and N of numbers, constructors and exceptions, S and N of strings; nothing else.
func TestP8_2Alike(t *testing.T) {
	str := func(s string, n int) api.Pat { return api.Pat{Kind: api.PtStr, S: s, N: n} }
	is(t, false, columns(str("a", 1)), list(str("a", 1)))
	is(t, true, columns(str("a", 1)), list(str("a", 2)))
	is(t, true, columns(str("a", 1)), list(str("b", 1)))
	is(t, false, columns(api.Pat{Kind: api.PtInt, N: 1, S: "a", Of: 3, At: 7}), list(number(1)))
	is(t, false, columns(api.Pat{Kind: api.PtStr, S: "a", Of: 3, At: 7}), list(text("a")))
	is(t, false, columns(api.Pat{Kind: api.PtCon, N: 1, Of: 2, S: "A", At: 7}), list(con(1, 5)))
	is(t, false, columns(api.Pat{Kind: api.PtExn, N: 1, Of: 2, S: "A", At: 7}), list(exn(1)))
	is(t, false, columns(api.Pat{Kind: api.PtTuple, N: 1, Of: 2, S: "A", At: 7}), list(tuple()))
	is(t, true, columns(con(0, 2)), list(con(0, 2, anything)))
	is(t, true, columns(con(0, 2, anything)), list(con(0, 2)))
	is(t, true, columns(exn(1)), list(exn(1, anything)))
	is(t, true, columns(tuple(anything, anything)), list(tuple(anything, anything, anything)))
	is(t, true, columns(tuple()), list(tuple(anything, anything)))
	is(t, true, columns(number(1)), list(exn(1)))
	is(t, true, columns(number(0)), list(text("")))
	is(t, true, columns(con(0, 1)), list(tuple()))
}

// Whether heads are all hangs on the first one, also where they are of no one type.
func TestP8_2Mixed(t *testing.T) {
	// Behind a tuple, whatever the others are: each of the heads is asked.
	is(t, false, columns(tuple(), number(1)), list(anything))
	is(t, true, columns(number(1), tuple()), list(anything))
	is(t, true, columns(tuple(), con(0, 2, number(1))), list(anything))
	is(t, false, columns(tuple(), con(0, 2, anything)), list(anything))
	is(t, true, columns(con(0, 2, anything), tuple()), list(anything))
	is(t, false, columns(tuple(), tuple(anything, anything)), list(anything))
	is(t, true, columns(tuple(), tuple(anything, number(1))), list(anything))
	// The first one's Of counts, and the numbers of all constructors.
	is(t, false, columns(con(0, 1), con(1, 7)), list(anything))
	is(t, true, columns(con(1, 7), con(0, 1)), list(anything))
	is(t, false, columns(con(0, 2), number(1), con(1, 5)), list(anything))
	is(t, true, columns(con(0, 2), number(1), con(2, 5)), list(anything))
	is(t, true, columns(con(0, 2), exn(1)), list(anything))
	is(t, true, columns(con(0, 2), number(1)), list(anything))
	is(t, true, columns(con(0, 1), number(1), exn(2, number(3))), list(anything))
	is(t, false, columns(con(0, 1), number(1), exn(2, named(3))), list(anything))
	// The same number with and without a kid: two heads, one number.
	is(t, true, columns(con(0, 2), con(0, 2, anything)), list(anything))
	is(t, true, columns(con(0, 3), con(0, 3, anything), con(1, 3)), list(anything))
	is(t, false, columns(con(0, 2), con(0, 2, anything), con(1, 2)), list(anything))
	is(t, true, columns(con(0, 2), con(0, 2, number(1)), con(1, 2)), list(anything))
	// Of alike ones the first one's Of counts.
	is(t, false, columns(con(0, 1), con(0, 9)), list(anything))
	is(t, true, columns(con(0, 9), con(0, 1)), list(anything))
}

// product is a great match: groups of columns, each column with so many constructors.
// Each choice of constructors in the columns is a way of its own through the rows; the
// last two rows end each way.
func product(groups ...[]int) [][]api.Pat {
	var rows [][]api.Pat
	put := func(group int, kids []api.Pat, last api.Pat) {
		row := many(len(groups) + 1)
		row[len(groups)] = last
		if kids != nil {
			row[group] = tuple(kids...)
		}
		rows = append(rows, row)
	}
	for g, columns := range groups {
		lines := [][]api.Pat{many(len(columns))}
		for c, of := range columns {
			for _, l := range lines {
				l[c] = con(0, of)
			}
			for n := 1; n < of; n++ {
				l := many(len(columns))
				l[c] = con(n, of)
				lines = append(lines, l)
			}
		}
		for _, l := range lines {
			put(g, l, con(0, 2))
		}
	}
	put(0, nil, con(0, 2))
	put(0, nil, con(1, 2))
	return rows
}

// Matches as great as they may be, with many ways through them.
func TestP1Great(t *testing.T) {
	for _, groups := range [][][]int{
		{{3, 3, 3}, {3, 3}, {3, 3}}, {{2, 2, 2, 2}, {2, 2, 2, 2}, {2, 2, 2}}, {{4, 4, 4}, {4, 4}}, {{2, 2, 2, 2, 2, 2}, {2, 2, 2, 2, 2}}, {{5, 5, 5}, {5, 2}}, {{2, 2, 2, 2, 2, 2, 2, 2, 2, 2}},
	} {
		rows := product(groups...)
		row := many(len(groups) + 1)
		is(t, false, rows, row)
		is(t, true, rows[:len(rows)-1], row)
		for i := range rows {
			is(t, slowUseful(rows[:i], rows[i]), rows[:i], rows[i])
		}
	}
	is(t, true, columns(slices.Repeat(list(tuple(anything, number(1))), 49)...), list(anything))
	var numbers []api.Pat
	for n := range 149 {
		numbers = append(numbers, number(n))
	}
	is(t, true, columns(numbers...), list(anything))
	is(t, false, columns(numbers...), list(number(148)))
	var cons []api.Pat
	for n := range 149 {
		cons = append(cons, con(148-n, 149))
	}
	is(t, false, columns(cons...), list(anything))
	is(t, true, columns(cons[1:]...), list(anything))
}
