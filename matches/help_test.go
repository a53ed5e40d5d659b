package matches

import (
	"strconv"
	"strings"

	"mlcore/api"
)

// Patterns, as these tests write them.

var anything = api.Pat{}

func named(n int) api.Pat             { return api.Pat{Kind: api.PtVar, N: n} }
func as(n int, p api.Pat) api.Pat     { return api.Pat{Kind: api.PtAs, N: n, Kids: []api.Pat{p}} }
func number(n int) api.Pat            { return api.Pat{Kind: api.PtInt, N: n} }
func text(s string) api.Pat           { return api.Pat{Kind: api.PtStr, S: s} }
func tuple(kids ...api.Pat) api.Pat   { return api.Pat{Kind: api.PtTuple, Kids: kids} }
func list(row ...api.Pat) []api.Pat   { return row }
func exn(n int, k ...api.Pat) api.Pat { return api.Pat{Kind: api.PtExn, N: n, Kids: k} }

func con(n, of int, kids ...api.Pat) api.Pat {
	return api.Pat{Kind: api.PtCon, N: n, Of: of, Kids: kids}
}

// many is a row of so many patterns that match everything.
func many(n int) []api.Pat { return make([]api.Pat, n) }

// columns is rows of one pattern.
func columns(pats ...api.Pat) [][]api.Pat {
	var rows [][]api.Pat
	for _, p := range pats {
		rows = append(rows, list(p))
	}
	return rows
}

// shown writes a row.
func shown(row []api.Pat) string {
	names := strings.Fields("any var as int str tuple con exn")
	var l []string
	for _, p := range row {
		s := strconv.Itoa(p.Kind)
		if p.Kind >= 0 && p.Kind < len(names) {
			s = names[p.Kind]
		}
		s += " " + strconv.Itoa(p.N) + "/" + strconv.Itoa(p.Of) + p.S
		if len(p.Kids) > 0 {
			s += "(" + shown(p.Kids) + ")"
		}
		l = append(l, s)
	}
	return strings.Join(l, ", ")
}

func shownAll(rows [][]api.Pat, row []api.Pat) string {
	s := ""
	for _, r := range rows {
		s += "  " + shown(r) + "\n"
	}
	return s + "? " + shown(row)
}
