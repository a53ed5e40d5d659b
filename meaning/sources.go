package meaning

import "mlcore/scopes"

// source is what a name stands for: its value is found by it where the name is used.
type source interface {
	from(names *link) value
}

// matched is a part of a value that was matched with a pattern.
type matched struct {
	depth int
	*way
}

func (s matched) from(names *link) value { return s.to(names.at(s.depth).value) }

// given is a value that is always the same.
type given struct{ value }

func (s given) from(*link) value { return s.value }

// functionSource is a function that fun declares, with the names that are there:
// by these it finds itself and the others of its fun, too.
type functionSource struct {
	depth int
	rule  *rule
}

func (s functionSource) from(names *link) value { return &closure{s.rule, names.at(s.depth)} }

// exceptionSource is an exception's declaration.
type exceptionSource struct {
	depth int
	*declared
}

func (s exceptionSource) exception(names *link) exception {
	return exception{s.declared, names.at(s.depth)}
}

func (s exceptionSource) from(names *link) value {
	x := s.exception(names)
	if s.takes {
		return x
	}
	return &exn{by: x}
}

// constructorSource is a constructor. Only those of one type are ever held against
// each other, so that the number says which it is.
type constructorSource struct{ scopes.Constructor }

func (s constructorSource) from(*link) value {
	if s.Takes {
		return maker(s.Number)
	}
	return bare(s.Number)
}
