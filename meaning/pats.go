package meaning

import "mlcore/api"

// pat reads the pattern of what a way leads to.
func (d *reader) pat(n api.Node, w *way) pattern {
	switch n.Kind {
	case api.PVar:
		d.Declare(n.Name, matched{d.depth, w})
	case api.PInt:
		return n.N
	case api.PStr:
		return n.Name
	case api.PCon:
		return d.constructor(n, w)
	case api.PTuple:
		return d.tuple(n.Kids, w)
	case api.PCons:
		return &constructed{consNumber, d.tuple(n.Kids, &way{before: w})}
	case api.PList:
		return d.list(n.Kids, w)
	case api.PAs:
		d.Declare(n.Name, matched{d.depth, w})
		return d.pat(n.Kids[0], w)
	case api.PHas:
		return d.pat(n.Kids[0], w)
	}
	return anything{}
}

func (d *reader) tuple(list []api.Node, w *way) pattern {
	var all []pattern
	for i, n := range list {
		all = append(all, d.pat(n, &way{w, i}))
	}
	return partsOf(all)
}

// partsOf leaves out what always matches, so that it is not asked for.
func partsOf(list []pattern) pattern {
	var p parts
	for i, x := range list {
		if _, always := x.(anything); !always {
			p = append(p, part{i, x})
		}
	}
	if p == nil {
		return anything{}
	}
	return p
}

func (d *reader) list(list []api.Node, w *way) pattern {
	if len(list) == 0 {
		return bare(emptyNumber)
	}
	argument := &way{before: w}
	first := d.pat(list[0], &way{argument, 0})
	rest := d.list(list[1:], &way{argument, 1})
	return &constructed{consNumber, partsOf([]pattern{first, rest})}
}

func (d *reader) constructor(n api.Node, w *way) pattern {
	var argument pattern = anything{}
	if len(n.Kids) > 0 {
		argument = d.pat(n.Kids[0], &way{before: w})
	}
	switch s := d.Find(n.Name).(type) {
	case exceptionSource:
		return &exceptional{s, argument}
	case constructorSource:
		if s.Takes {
			return &constructed{s.Number, argument}
		}
		return bare(s.Number)
	}
	return anything{}
}
