package syntax

import "mlcore/api"

// patRules has the patterns that stand as a parameter without brackets.
func patRules() table {
	return table{
		{text: "_"}:          (*reader).anyPat,
		{kind: api.TokLower}: leaf(api.PVar),
		{kind: api.TokInt}:   leaf(api.PInt),
		{text: "~"}:          (*reader).negativePat,
		{kind: api.TokStr}:   leaf(api.PStr),
		{kind: api.TokUpper}: (*reader).pathPat,
		{text: "true"}:       leaf(api.PCon),
		{text: "false"}:      leaf(api.PCon),
		{text: "("}:          (*reader).bracketPat,
		{text: "["}:          (*reader).listPat,
	}
}

func (r *reader) pat() api.Node { return r.deeper(r.chain) }

// chain reads all of a chain in one go: its parts do not stand within one another.
func (r *reader) chain() api.Node {
	list := r.row("::", r.conPat)
	last := len(list) - 1
	n := list[last]
	for i := range last {
		n = pair(api.PCons, list[last-1-i], n)
	}
	return n
}

// conPat reads a constructor with what it is applied to, or what stands without brackets.
func (r *reader) conPat() api.Node {
	takes := r.look().Kind == api.TokUpper
	n := r.choose(r.apats)
	if takes && r.begins(r.apats) {
		n.Kids = []api.Node{r.choose(r.apats)}
	}
	return n
}

func (r *reader) anyPat() api.Node { return api.Node{Kind: api.PAny, At: r.take().At} }

func (r *reader) negativePat() api.Node {
	at := r.take().At
	return api.Node{Kind: api.PInt, At: at, N: -r.name(api.TokInt).N}
}

func (r *reader) pathPat() api.Node { return single(api.PCon, r.path(api.TokUpper)) }

func (r *reader) bracketPat() api.Node {
	at := r.take().At
	if r.skip(")") {
		return api.Node{Kind: api.PTuple, At: at}
	}
	if r.namesPat() {
		return r.asPat(at)
	}
	n := r.pat()
	switch {
	case r.is(","):
		n = api.Node{Kind: api.PTuple, At: at, Kids: r.more([]api.Node{n}, ",", r.pat)}
	case r.skip(":"):
		n = api.Node{Kind: api.PHas, At: at, Kids: []api.Node{n, r.typ()}}
	}
	r.expect(")")
	return n
}

// namesPat asks whether a name with `as` behind it comes next: without a second
// token it is not known what a name in brackets begins.
func (r *reader) namesPat() bool {
	return r.look().Kind == api.TokLower && markOf(r.ahead(1)) == mark{text: "as"}
}

func (r *reader) asPat(at int) api.Node {
	n := api.Node{Kind: api.PAs, At: at, Name: r.take().Text}
	r.expect("as")
	n.Kids = []api.Node{r.pat()}
	r.expect(")")
	return n
}

func (r *reader) listPat() api.Node { return r.list(api.PList, r.pat) }
