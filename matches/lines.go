package matches

import (
	"slices"

	"mlcore/api"
)

// head is what a pattern asks for by itself: alike patterns have the same one.
type head struct {
	kind, number int
	text         string
	width        int // how many kids it has
}

func headOf(p api.Pat) head {
	h := head{kind: p.Kind, width: len(p.Kids)}
	switch p.Kind {
	case api.PtInt, api.PtCon, api.PtExn:
		h.number = p.N
	case api.PtStr:
		h.number, h.text = p.N, p.S
	}
	return h
}

// part is a pattern, without the names that it gives; nil is PtAny.
type part struct {
	head head
	of   int
	kids line
}

func partOf(p api.Pat) *part {
	switch p.Kind {
	case api.PtAny, api.PtVar:
		return nil
	case api.PtAs:
		return partOf(p.Kids[0])
	}
	return &part{headOf(p), p.Of, partsOf(p.Kids)}
}

// line is patterns side by side, the first one last: then what is left behind the
// first one is a front, which lines share.
type line []*part

func partsOf(list []api.Pat) line {
	var l line
	for _, p := range slices.Backward(list) {
		l = append(l, partOf(p))
	}
	return l
}

// lineOf is a row's line. A line ends with a pattern that is not PtAny: so the empty
// line, and it alone, matches everything.
func lineOf(row []api.Pat) line { return partsOf(row).trimmed() }

func (l line) trimmed() line {
	for len(l) > 0 && l[0] == nil {
		l = l[1:]
	}
	return l
}

func (l line) matchesAll() bool { return len(l) == 0 }

func (l line) first() *part {
	if l.matchesAll() {
		return nil
	}
	return l[len(l)-1]
}

// rest is the line without its first pattern. It has no room behind it: what is put
// there is not put into a line that shares it.
func (l line) rest() line {
	if l.matchesAll() {
		return l
	}
	last := len(l) - 1
	return l[:last:last]
}

// behind is what the line asks for behind a head; not ok: it falls out.
func (l line) behind(h head) (left line, ok bool) {
	if l.matchesAll() {
		return l, true
	}
	first := l.first()
	switch {
	case first == nil:
		return append(l.rest(), make(line, h.width)...), true
	case first.head == h:
		return append(l.rest(), first.kids...).trimmed(), true
	}
	return nil, false
}
