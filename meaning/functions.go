package meaning

import (
	"slices"
	"strconv"
	"strings"

	"mlcore/api"
)

// firstFunctions is those that are there from the beginning.
func firstFunctions() []*basic {
	return []*basic{
		{"not", negated}, {"print", printed}, {"str", digits},
		{"size", sizeOf}, {"sub", byteAt}, {"part", partOf}, {"chr", byteText},
		{"ref", newReference},
		{"array", newArray}, {"length", lengthOf}, {"at", cellAt}, {"put", putCell},
	}
}

func negated(_ *run, v value) (value, int) { return truth(!isTrue(v)), nothingFails }

func printed(r *run, v value) (value, int) {
	s := v.(string)
	if len(r.out)+len(s) > api.MaxOut {
		return nil, tooGreat
	}
	r.out = append(r.out, s...)
	return tuple{}, nothingFails
}

func digits(_ *run, v value) (value, int) {
	return strings.Replace(strconv.Itoa(v.(int)), "-", "~", 1), nothingFails
}

func sizeOf(_ *run, v value) (value, int) { return len(v.(string)), nothingFails }

func byteAt(_ *run, v value) (value, int) {
	t := v.(tuple)
	s, i := t[0].(string), t[1].(int)
	if i < 0 || i >= len(s) {
		return nil, outOfBounds
	}
	return int(s[i]), nothingFails
}

func partOf(_ *run, v value) (value, int) {
	t := v.(tuple)
	s, i, n := t[0].(string), t[1].(int), t[2].(int)
	if i < 0 || n < 0 || i+n > len(s) {
		return nil, outOfBounds
	}
	return s[i : i+n], nothingFails
}

func byteText(_ *run, v value) (value, int) {
	n := v.(int)
	if n < 0 || n > 255 {
		return nil, outOfBounds
	}
	return string([]byte{byte(n)}), nothingFails
}

func newReference(_ *run, v value) (value, int) { return &reference{v}, nothingFails }

func newArray(_ *run, v value) (value, int) {
	t := v.(tuple)
	n := t[0].(int)
	if n < 0 || n > api.MaxArray {
		return nil, tooGreat
	}
	return &array{slices.Repeat(t[1:2], n)}, nothingFails
}

func lengthOf(_ *run, v value) (value, int) { return len(v.(*array).cells), nothingFails }

func cellAt(_ *run, v value) (value, int) {
	t := v.(tuple)
	a, i := t[0].(*array), t[1].(int)
	if i < 0 || i >= len(a.cells) {
		return nil, outOfBounds
	}
	return a.cells[i], nothingFails
}

func putCell(_ *run, v value) (value, int) {
	t := v.(tuple)
	a, i := t[0].(*array), t[1].(int)
	if i < 0 || i >= len(a.cells) {
		return nil, outOfBounds
	}
	a.cells[i] = t[2]
	return tuple{}, nothingFails
}
