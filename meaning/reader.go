package meaning

import (
	"mlcore/api"
	"mlcore/scopes"
)

// reader makes of a program that has types what is run. Names are found now, once
// for all, by what they stand for.
type reader struct {
	*scopes.Scope[source]
	signs map[string]sign
	depth int // of the last link that is there
}

// newReader has the names that are there from the beginning.
func newReader(exceptions []*declared) *reader {
	constructor := func(c scopes.Constructor) source { return constructorSource{c} }
	d := &reader{Scope: scopes.New(constructor), signs: signs()}
	for _, f := range firstFunctions() {
		d.Declare(f.name, given{f})
	}
	d.Declare("false", constructor(scopes.Constructor{Number: falseNumber}))
	d.Declare("true", constructor(scopes.Constructor{Number: trueNumber}))
	for _, x := range exceptions {
		d.Declare(x.name, exceptionSource{0, x})
	}
	return d
}

func (d *reader) program(n api.Node) *block { return &block{vals: d.decs(n.Kids)} }

// within forgets the names that a part declares, and the links that it has.
func (d *reader) within(part func()) {
	outside := d.depth
	d.Within(part)
	d.depth = outside
}

func (d *reader) decs(list []api.Node) []val {
	var vals []val
	for _, n := range list {
		vals = append(vals, d.dec(n)...)
	}
	return vals
}

// dec goes through a declaration, and gives what it does.
func (d *reader) dec(n api.Node) (vals []val) {
	switch n.Kind {
	case api.DVal:
		e := d.exp(n.Kids[1])
		vals = append(vals, val{d.whole(n.Kids[0]), e})
	case api.DFun:
		d.fun(n)
	case api.DData:
		d.Data(n)
	case api.DExn:
		d.Declare(n.Name, exceptionSource{d.depth, &declared{n.Name, len(n.Kids) > 0}})
	case api.DStruct:
		d.Structure(n, func(list []api.Node) { vals = d.decs(list) })
	case api.DSig:
		d.Signature(n)
	case api.DOpen:
		d.Open(n.Name)
	}
	return vals
}

func (d *reader) fun(n api.Node) {
	list := make([]*rule, len(n.Kids))
	for i, b := range n.Kids {
		list[i] = &rule{}
		d.Declare(b.Name, functionSource{d.depth, list[i]})
	}
	for i, b := range n.Kids {
		last := len(b.Kids) - 1
		*list[i] = *d.function(b.Kids[:last], b.Kids[last])
	}
}

// function is one of its first pattern that gives one of the next.
func (d *reader) function(patterns []api.Node, body api.Node) *rule {
	if len(patterns) == 1 {
		return d.rule(patterns[0], func() expression { return d.exp(body) })
	}
	return d.rule(patterns[0], func() expression { return lambda{d.function(patterns[1:], body)} })
}

// rule is a pattern with what is read with its names.
func (d *reader) rule(p api.Node, body func() expression) *rule {
	x := &rule{}
	d.within(func() {
		x.pattern = d.whole(p)
		x.body = body()
	})
	return x
}

func (d *reader) rules(list []api.Node) rules {
	var all rules
	for _, n := range list {
		all = append(all, d.rule(n.Kids[0], func() expression { return d.exp(n.Kids[1]) }))
	}
	return all
}

// whole is the pattern of a whole value, which has a link from now on.
func (d *reader) whole(p api.Node) pattern {
	d.depth++
	return d.pat(p, nil)
}
