package matches

import (
	"slices"

	"mlcore/api"
)

// useful asks whether some values are matched by one line and by none of others. The
// first two answers are those that the rules come to whatever the patterns that are
// left; told early, they spare most of the ways through great matches.
func useful(lines []line, own line) bool {
	if len(lines) == 0 {
		return true
	}
	if slices.ContainsFunc(lines, line.matchesAll) {
		return false
	}
	if first := own.first(); first != nil {
		return usefulBehind(first.head, lines, own)
	}
	heads := headsOf(lines)
	if !areAll(heads) {
		return useful(restsBehindAny(lines), own.rest())
	}
	for _, p := range heads {
		if usefulBehind(p.head, lines, own) {
			return true
		}
	}
	return false
}

func usefulBehind(h head, lines []line, own line) bool {
	var left []line
	for _, l := range lines {
		if l, ok := l.behind(h); ok {
			left = append(left, l)
		}
	}
	own, _ = own.behind(h)
	return useful(left, own)
}

func restsBehindAny(lines []line) []line {
	var left []line
	for _, l := range lines {
		if l.first() == nil {
			left = append(left, l.rest())
		}
	}
	return left
}

// headsOf is the first patterns that are not PtAny, alike ones once.
func headsOf(lines []line) []*part {
	var heads []*part
	for _, l := range lines {
		p := l.first()
		if p != nil && !slices.ContainsFunc(heads, func(o *part) bool { return o.head == p.head }) {
			heads = append(heads, p)
		}
	}
	return heads
}

// areAll asks whether each value begins with one of the heads.
func areAll(heads []*part) bool {
	if len(heads) == 0 {
		return false
	}
	first := heads[0]
	return first.head.kind == api.PtTuple || first.head.kind == api.PtCon && numbersBelow(first.of, heads) == first.of
}

// numbersBelow counts the constructors with a number below a bound: those that have
// the same number, but not as many kids, are one.
func numbersBelow(bound int, heads []*part) int {
	var numbers []int
	for _, p := range heads {
		if p.head.kind == api.PtCon && p.head.number < bound {
			numbers = append(numbers, p.head.number)
		}
	}
	slices.Sort(numbers)
	return len(slices.Compact(numbers))
}
