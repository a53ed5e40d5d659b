package matches

import "mlcore/api"

// The kinds of warnings.
const (
	notAllCases = iota + 1
	neverComes
)

// withWarnings puts the warnings of a term behind others, and those of its kids behind these.
func withWarnings(list []api.Warning, t api.Term) []api.Warning {
	switch t.Op {
	case api.TCase, api.TFn, api.TLet, api.TTry:
		list = append(list, ofMatch(t)...)
	}
	for _, kid := range t.Kids {
		list = withWarnings(list, kid)
	}
	return list
}

// ofMatch is the warnings of a term's own patterns, if these are not too many. A try
// never lacks cases: what none of them matches goes on being raised.
func ofMatch(t api.Term) []api.Warning {
	r := room{api.MaxMatch}
	if !r.takes(t.Pats) {
		return nil
	}
	var lines []line
	for _, p := range t.Pats {
		lines = append(lines, lineOf([]api.Pat{p}))
	}
	var list []api.Warning
	if t.Op != api.TTry && useful(lines, line{}) {
		list = append(list, api.Warning{At: t.At, Kind: notAllCases})
	}
	for i, p := range t.Pats {
		if !useful(lines[:i], lines[i]) {
			list = append(list, api.Warning{At: p.At, Kind: neverComes})
		}
	}
	return list
}
