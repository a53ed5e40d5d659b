package syntax

import (
	"slices"
	"strings"

	"mlcore/api"
)

// rule reads something of the grammar.
type rule = func(*reader) api.Node

// mark is what a token is known by: a word or a sign by its text, others by their kind.
type mark struct {
	kind int
	text string
}

func markOf(t api.Token) mark {
	if t.Kind == api.TokWord || t.Kind == api.TokSign {
		return mark{text: t.Text}
	}
	return mark{kind: t.Kind}
}

// table has a rule for each token that can begin something.
type table map[mark]rule

// reader reads a row of tokens by the rules of the grammar.
type reader struct {
	tokens      []api.Token
	fault       api.Fault // why there are no more tokens
	next, depth int

	opens, operands             table // of expressions
	apats, posts                table // of patterns, of types
	tops, inners, locals, specs table // of declarations and specifications
	bodies, sigs                table // of structures and signatures
}

func newReader(tokens []api.Token, fault api.Fault) *reader {
	return &reader{
		tokens: tokens, fault: fault,
		opens: openRules(), operands: operandRules(),
		apats: patRules(), posts: typeRules(),
		tops: topRules(), inners: innerRules(), locals: localRules(), specs: specRules(),
		bodies: bodyRules(), sigs: sigRules(),
	}
}

// fail tells a fault at the next token. This one is not looked at: a fault that
// is found without it goes ahead of its own.
func (r *reader) fail(kind api.Errno) {
	at := r.fault.At
	if r.next < len(r.tokens) {
		at = r.tokens[r.next].At
	}
	panic(api.Fault{Kind: kind, At: at})
}

// ahead is the token that comes when so many have been taken.
func (r *reader) ahead(n int) api.Token {
	if r.next+n >= len(r.tokens) {
		panic(r.fault)
	}
	return r.tokens[r.next+n]
}

func (r *reader) look() api.Token { return r.ahead(0) }

func (r *reader) take() api.Token {
	t := r.look()
	r.next++
	return t
}

// is asks whether a word or a sign comes next.
func (r *reader) is(text string) bool { return markOf(r.look()) == mark{text: text} }

// skip takes a word or a sign, if it comes next.
func (r *reader) skip(text string) bool {
	found := r.is(text)
	if found {
		r.next++
	}
	return found
}

// expect takes a word or a sign that has to come next.
func (r *reader) expect(text string) {
	if !r.skip(text) {
		r.fail(api.ErrSyntax)
	}
}

// name takes a token that has to be of one of these kinds.
func (r *reader) name(kinds ...int) api.Token {
	if !slices.Contains(kinds, r.look().Kind) {
		r.fail(api.ErrSyntax)
	}
	return r.take()
}

func (r *reader) begins(t table) bool {
	_, ok := t[markOf(r.look())]
	return ok
}

// choose reads by the rule that the next token asks for; there has to be one.
func (r *reader) choose(t table) api.Node {
	if !r.begins(t) {
		r.fail(api.ErrSyntax)
	}
	return t[markOf(r.look())](r)
}

// deeper reads one of the things of which only MaxDepth may stand within one another.
func (r *reader) deeper(part func() api.Node) api.Node {
	if r.depth == api.MaxDepth {
		r.fail(api.ErrDeep)
	}
	r.depth++
	n := part()
	r.depth--
	return n
}

// row reads a part, and one more behind each sign.
func (r *reader) row(sign string, part func() api.Node) []api.Node {
	return r.more([]api.Node{part()}, sign, part)
}

// more goes on with a row of which the first part has been read.
func (r *reader) more(list []api.Node, sign string, part func() api.Node) []api.Node {
	for r.skip(sign) {
		list = append(list, part())
	}
	return list
}

// path reads names with dots between, as one token of its last name's kind,
// which has to be one of these.
func (r *reader) path(last ...int) api.Token {
	t := r.look()
	kinds := append([]int{api.TokUpper}, last...)
	var parts []string
	for {
		name := r.name(kinds...)
		t.Kind = name.Kind
		parts = append(parts, name.Text)
		if name.Kind != api.TokUpper || slices.Contains(last, api.TokUpper) && !r.is(".") {
			break
		}
		r.expect(".")
	}
	t.Text = strings.Join(parts, ".")
	return t
}

// leaf is the rule of a node that is one token.
func leaf(kind int) rule {
	return func(r *reader) api.Node { return single(kind, r.take()) }
}

func single(kind int, t api.Token) api.Node {
	return api.Node{Kind: kind, At: t.At, Name: t.Text, N: t.N}
}

// pair is a node that begins where the first of its two kids begins.
func pair(kind int, a, b api.Node) api.Node {
	return api.Node{Kind: kind, At: a.At, Kids: []api.Node{a, b}}
}
