package syntax

import "mlcore/api"

// typeRules has the types that names may stand behind.
func typeRules() table {
	return table{
		{kind: api.TokVar}:   leaf(api.YVar),
		{kind: api.TokLower}: leaf(api.YCon),
		{kind: api.TokUpper}: (*reader).pathType,
		{text: "("}:          (*reader).bracketType,
	}
}

func (r *reader) typ() api.Node { return r.deeper(r.arrow) }

func (r *reader) arrow() api.Node {
	n := r.product()
	if r.skip("->") {
		n = pair(api.YArrow, n, r.typ())
	}
	return n
}

func (r *reader) product() api.Node {
	list := r.row("*", r.post)
	if len(list) == 1 {
		return list[0]
	}
	return api.Node{Kind: api.YTuple, At: list[0].At, Kids: list}
}

// post reads a type and the names behind it. These begin where the text does,
// with a bracket that does not belong to the type itself.
func (r *reader) post() api.Node {
	at := r.look().At
	n := r.choose(r.posts)
	for r.look().Kind == api.TokLower || r.look().Kind == api.TokUpper {
		n = api.Node{Kind: api.YCon, At: at, Name: r.path(api.TokLower).Text, Kids: []api.Node{n}}
	}
	return n
}

func (r *reader) pathType() api.Node { return single(api.YCon, r.path(api.TokLower)) }

func (r *reader) bracketType() api.Node {
	at := r.take().At
	list := r.row(",", r.typ)
	r.expect(")")
	if len(list) == 1 {
		return list[0]
	}
	return api.Node{Kind: api.YCon, At: at, Name: r.path(api.TokLower).Text, Kids: list}
}
