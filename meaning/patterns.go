package meaning

// pattern is what a value may match: an int, a string, a bare, parts, a
// *constructed, an *exceptional, or anything. Names are no part of it: they are
// found on their ways into the value when they are used.
type pattern any

// anything is matched by every value.
type anything struct{}

// parts is matched by a tuple if some values in it match: one at least.
type parts []part

type part struct {
	place int
	pattern
}

// constructed is matched by a constructor with an argument that matches.
type constructed struct {
	number   int
	argument pattern
}

// exceptional is matched by an exception whose argument matches, if it has one.
type exceptional struct {
	exceptionSource
	argument pattern
}

// fits asks whether a value matches. It goes on with the last part of a pattern
// by itself, so that a long list takes no depth.
func fits(p pattern, v value, names *link) bool {
	for {
		switch x := p.(type) {
		case int:
			return v.(int) == x
		case string:
			return v.(string) == x
		case bare:
			n, ok := v.(bare)
			return ok && n == x
		case parts:
			t, last := v.(tuple), len(x)-1
			if !fitParts(x[:last], t, names) {
				return false
			}
			p, v = x[last].pattern, t[x[last].place]
		case *constructed:
			b, ok := v.(*built)
			if !ok || b.number != x.number {
				return false
			}
			p, v = x.argument, b.argument
		case *exceptional:
			e := v.(*exn)
			if e.by != x.exception(names) {
				return false
			}
			p, v = x.argument, e.argument
		default:
			return true
		}
	}
}

func fitParts(p parts, t tuple, names *link) bool {
	for _, x := range p {
		if !fits(x.pattern, t[x.place], names) {
			return false
		}
	}
	return true
}

// rule is a pattern, and what is evaluated with its names.
type rule struct {
	pattern
	body expression
}

// takes goes on with the body, if a value matches.
func (x *rule) takes(r *run, v value, names *link) bool {
	ok := fits(x.pattern, v, names)
	if ok {
		r.evaluate(x.body, names.with(v))
	}
	return ok
}

// rules are asked in their order.
type rules []*rule

// choose goes on with the first rule that a value matches, if there is one.
func (l rules) choose(r *run, v value, names *link) bool {
	for _, x := range l {
		if x.takes(r, v, names) {
			return true
		}
	}
	return false
}

// way leads into a value, to a part of it: by the way before it, if there is one,
// and then to a place in a tuple, or to the argument of a constructor.
type way struct {
	before *way
	place  int // in a tuple
}

func (w *way) to(v value) value {
	if w == nil {
		return v
	}
	switch v := w.before.to(v).(type) {
	case tuple:
		return v[w.place]
	case *built:
		return v.argument
	default:
		return v.(*exn).argument
	}
}
