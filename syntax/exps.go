package syntax

import "mlcore/api"

// openRules has what goes on as far as it can, and so is no part of an operator
// without brackets.
func openRules() table {
	return table{
		{text: "fn"}:    (*reader).fnExp,
		{text: "if"}:    (*reader).ifExp,
		{text: "raise"}: (*reader).raiseExp,
	}
}

// operandRules has what a function is applied to without brackets.
func operandRules() table {
	return table{
		{kind: api.TokInt}:   leaf(api.EInt),
		{kind: api.TokStr}:   leaf(api.EStr),
		{kind: api.TokLower}: leaf(api.EVar),
		{kind: api.TokUpper}: (*reader).pathExp,
		{text: "true"}:       leaf(api.ECon),
		{text: "false"}:      leaf(api.ECon),
		{text: "~"}:          (*reader).unaryExp,
		{text: "!"}:          (*reader).unaryExp,
		{text: "("}:          (*reader).bracketExp,
		{text: "["}:          (*reader).listExp,
		{text: "let"}:        (*reader).letExp,
		{text: "case"}:       (*reader).caseExp,
		{text: "try"}:        (*reader).tryExp,
	}
}

func (r *reader) exp() api.Node { return r.deeper(r.expHere) }

func (r *reader) expHere() api.Node {
	if r.begins(r.opens) {
		return r.choose(r.opens)
	}
	return r.operation(levelSet)
}

func (r *reader) fnExp() api.Node {
	n := api.Node{Kind: api.EFn, At: r.take().At}
	n.Kids = append(n.Kids, r.choose(r.apats))
	r.expect("=>")
	n.Kids = append(n.Kids, r.exp())
	return n
}

func (r *reader) ifExp() api.Node {
	n := api.Node{Kind: api.EIf, At: r.take().At}
	n.Kids = append(n.Kids, r.exp())
	r.expect("then")
	n.Kids = append(n.Kids, r.exp())
	r.expect("else")
	n.Kids = append(n.Kids, r.exp())
	return n
}

func (r *reader) raiseExp() api.Node {
	at := r.take().At
	return api.Node{Kind: api.ERaise, At: at, Kids: []api.Node{r.exp()}}
}

// operation reads operators of at least a level. One that asks for more on its
// left than what has been read is left to the caller, who cannot take it either:
// this is how comparisons do not go on.
func (r *reader) operation(least int) api.Node {
	n, level := r.application(), levelApply
	for {
		op, ok := r.operator()
		if !ok || op.level < least || op.left > level {
			return n
		}
		r.take()
		n = op.join(n, r.operation(op.right))
		level = op.level
	}
}

// operator is the operator that comes next, if one does.
func (r *reader) operator() (operator, bool) {
	for _, op := range operators {
		if r.is(op.text) {
			return op, true
		}
	}
	return operator{}, false
}

func (r *reader) application() api.Node {
	n := r.choose(r.operands)
	for r.begins(r.operands) {
		n = pair(api.EApp, n, r.choose(r.operands))
	}
	return n
}

func (r *reader) unaryExp() api.Node {
	n := single(api.EOp, r.take())
	n.Kids = []api.Node{r.choose(r.operands)}
	return n
}

func (r *reader) pathExp() api.Node {
	t := r.path(api.TokLower, api.TokUpper)
	if t.Kind == api.TokLower {
		return single(api.EVar, t)
	}
	return single(api.ECon, t)
}

func (r *reader) bracketExp() api.Node {
	at := r.take().At
	if r.skip(")") {
		return api.Node{Kind: api.ETuple, At: at}
	}
	n := r.exp()
	switch {
	case r.is(","):
		n = api.Node{Kind: api.ETuple, At: at, Kids: r.more([]api.Node{n}, ",", r.exp)}
	case r.is(";"):
		n = api.Node{Kind: api.ESeq, At: at, Kids: r.more([]api.Node{n}, ";", r.exp)}
	case r.skip(":"):
		n = api.Node{Kind: api.EHas, At: at, Kids: []api.Node{n, r.typ()}}
	}
	r.expect(")")
	return n
}

func (r *reader) listExp() api.Node { return r.list(api.EList, r.exp) }

// list reads a list of expressions or of patterns.
func (r *reader) list(kind int, part func() api.Node) api.Node {
	n := api.Node{Kind: kind, At: r.take().At}
	if r.skip("]") {
		return n
	}
	n.Kids = r.row(",", part)
	r.expect("]")
	return n
}

func (r *reader) letExp() api.Node {
	n := api.Node{Kind: api.ELet, At: r.take().At}
	n.Kids = r.decs(r.locals)
	n.N = len(n.Kids)
	r.expect("in")
	n.Kids = append(n.Kids, r.exp())
	r.expect("end")
	return n
}

func (r *reader) caseExp() api.Node { return r.choice(api.ECase, "of") }

func (r *reader) tryExp() api.Node { return r.choice(api.ETry, "with") }

// choice reads an expression, a word, and rules for what it may be.
func (r *reader) choice(kind int, word string) api.Node {
	n := api.Node{Kind: kind, At: r.take().At}
	n.Kids = append(n.Kids, r.exp())
	r.expect(word)
	n.Kids = append(n.Kids, r.row("|", r.rule)...)
	r.expect("end")
	return n
}

func (r *reader) rule() api.Node {
	p := r.pat()
	r.expect("=>")
	return pair(api.Rule, p, r.exp())
}
