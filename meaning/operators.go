package meaning

import "mlcore/api"

// What may fail: which of the exceptions that are there from the beginning is raised.
const (
	matchFails = iota
	bindFails
	overflows
	divides
	outOfBounds
	tooGreat
	nothingFails
)

func firstExceptions() []*declared {
	list := make([]*declared, nothingFails)
	for i, name := range []string{"Match", "Bind", "Overflow", "Div", "Bounds", "Size"} {
		list[i] = &declared{name: name}
	}
	return list
}

// sign is what an operator makes of the values of its kids.
type sign = func([]value) (value, int)

func signs() map[string]sign {
	return map[string]sign{
		"+":  ofNumbers(func(a, b int) (value, int) { return inRange(a + b) }),
		"-":  ofNumbers(func(a, b int) (value, int) { return inRange(a - b) }),
		"*":  ofNumbers(func(a, b int) (value, int) { return inRange(a * b) }),
		"/":  ofNumbers(divided),
		"%":  ofNumbers(remainder),
		"<":  ofNumbers(func(a, b int) (value, int) { return truth(a < b), nothingFails }),
		"<=": ofNumbers(func(a, b int) (value, int) { return truth(a <= b), nothingFails }),
		">":  ofNumbers(func(a, b int) (value, int) { return truth(a > b), nothingFails }),
		">=": ofNumbers(func(a, b int) (value, int) { return truth(a >= b), nothingFails }),
		"~":  func(l []value) (value, int) { return -l[0].(int), nothingFails },
		"^":  joined,
		"=":  func(l []value) (value, int) { return compared(l[0], l[1], true) },
		"<>": func(l []value) (value, int) { return compared(l[0], l[1], false) },
		"::": func(l []value) (value, int) { return cons(l[0], l[1]), nothingFails },
		"!":  func(l []value) (value, int) { return l[0].(*reference).held, nothingFails },
		":=": assigned,
	}
}

func ofNumbers(does func(a, b int) (value, int)) sign {
	return func(l []value) (value, int) { return does(l[0].(int), l[1].(int)) }
}

func inRange(n int) (value, int) {
	if n < -api.MaxInt || n > api.MaxInt {
		return nil, overflows
	}
	return n, nothingFails
}

func divided(a, b int) (value, int) {
	if b == 0 {
		return nil, divides
	}
	return a / b, nothingFails
}

func remainder(a, b int) (value, int) {
	if b == 0 {
		return nil, divides
	}
	return a % b, nothingFails
}

func joined(l []value) (value, int) {
	a, b := l[0].(string), l[1].(string)
	if len(a)+len(b) > api.MaxStr {
		return nil, tooGreat
	}
	return a + b, nothingFails
}

func assigned(l []value) (value, int) {
	l[0].(*reference).held = l[1]
	return tuple{}, nothingFails
}

// comparison compares two values, and counts the pairs that it looks at.
type comparison struct{ pairs int }

// compared says whether two values are the same, or are not.
func compared(a, b value, same bool) (value, int) {
	c := &comparison{}
	is := c.same(a, b)
	if c.pairs > api.MaxSame {
		return nil, tooGreat
	}
	return truth(is == same), nothingFails
}

func (c *comparison) same(a, b value) bool {
	c.pairs++
	if c.pairs > api.MaxSame {
		return false
	}
	switch a := a.(type) {
	case tuple:
		return c.sameParts(a, b.(tuple))
	case *built:
		b, ok := b.(*built)
		return ok && a.number == b.number && c.same(a.argument, b.argument)
	default:
		return a == b
	}
}

func (c *comparison) sameParts(a, b tuple) bool {
	for i, v := range a {
		if !c.same(v, b[i]) {
			return false
		}
	}
	return true
}
