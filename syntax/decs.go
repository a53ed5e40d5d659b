package syntax

import "mlcore/api"

// localRules has the declarations of a let.
func localRules() table {
	return table{
		{text: "val"}:       (*reader).valDec,
		{text: "fun"}:       (*reader).funDec,
		{text: "exception"}: (*reader).exceptionDec,
		{text: "open"}:      (*reader).openDec,
	}
}

// innerRules has the declarations of a structure.
func innerRules() table {
	t := localRules()
	t[mark{text: "type"}] = (*reader).typeDec
	t[mark{text: "data"}] = (*reader).dataDec
	t[mark{text: "structure"}] = (*reader).structureDec
	return t
}

// topRules has the declarations of a program.
func topRules() table {
	t := innerRules()
	t[mark{text: "signature"}] = (*reader).signatureDec
	return t
}

func bodyRules() table {
	return table{
		{text: "struct"}:     (*reader).structBody,
		{kind: api.TokUpper}: (*reader).pathBody,
	}
}

func sigRules() table {
	return table{
		{text: "sig"}:        (*reader).sigBody,
		{kind: api.TokUpper}: leaf(api.GName),
	}
}

func specRules() table {
	return table{
		{text: "val"}:       (*reader).valSpec,
		{text: "type"}:      (*reader).typeSpec,
		{text: "data"}:      (*reader).dataDec,
		{text: "exception"}: (*reader).exceptionDec,
		{text: "structure"}: (*reader).structureSpec,
	}
}

func (r *reader) program() api.Node {
	return api.Node{Kind: api.Prog, Kids: r.decs(r.tops)}
}

// decs reads declarations for as long as one begins.
func (r *reader) decs(t table) []api.Node {
	var list []api.Node
	for r.begins(t) {
		list = append(list, r.deeper(func() api.Node { return r.choose(t) }))
	}
	return list
}

func (r *reader) valDec() api.Node {
	n := api.Node{Kind: api.DVal, At: r.take().At}
	n.Kids = append(n.Kids, r.pat())
	r.expect("=")
	n.Kids = append(n.Kids, r.exp())
	return n
}

func (r *reader) funDec() api.Node {
	n := api.Node{Kind: api.DFun, At: r.take().At}
	n.Kids = r.row("and", r.funBind)
	return n
}

func (r *reader) funBind() api.Node {
	n := single(api.FBind, r.name(api.TokLower))
	n.Kids = append(n.Kids, r.choose(r.apats))
	for r.begins(r.apats) {
		n.Kids = append(n.Kids, r.choose(r.apats))
	}
	n.Kids = append(n.Kids, r.funBody())
	return n
}

// funBody reads a function's expression. With a type it counts twice, since it
// stands in brackets when it is written.
func (r *reader) funBody() api.Node {
	if !r.skip(":") {
		r.expect("=")
		return r.exp()
	}
	t := r.typ()
	r.expect("=")
	return pair(api.EHas, r.deeper(r.exp), t)
}

func (r *reader) typeDec() api.Node {
	at := r.take().At
	n := r.head(api.DType)
	n.At = at
	r.expect("=")
	n.Kids = append(n.Kids, r.typ())
	return n
}

// head reads the variables and the name of a type that is declared.
func (r *reader) head(kind int) api.Node {
	n := api.Node{Kind: kind, At: r.look().At}
	if r.skip("(") {
		n.Kids = r.row(",", r.variable)
		r.expect(")")
	} else if r.look().Kind == api.TokVar {
		n.Kids = []api.Node{r.variable()}
	}
	n.N = len(n.Kids)
	n.Name = r.name(api.TokLower).Text
	return n
}

func (r *reader) variable() api.Node { return single(api.YVar, r.name(api.TokVar)) }

func (r *reader) dataDec() api.Node {
	n := api.Node{Kind: api.DData, At: r.take().At}
	n.Kids = r.row("and", r.dataBind)
	return n
}

func (r *reader) dataBind() api.Node {
	n := r.head(api.DBind)
	r.expect("=")
	n.Kids = append(n.Kids, r.row("|", r.con)...)
	return n
}

func (r *reader) con() api.Node {
	n := single(api.Con, r.name(api.TokUpper))
	if r.skip("of") {
		n.Kids = []api.Node{r.typ()}
	}
	return n
}

func (r *reader) exceptionDec() api.Node {
	at := r.take().At
	n := r.con()
	n.Kind, n.At = api.DExn, at
	return n
}

func (r *reader) structureDec() api.Node {
	at := r.take().At
	n := api.Node{Kind: api.DStruct, At: at, Name: r.name(api.TokUpper).Text}
	if r.skip(":") {
		n.N = 1
	} else if r.skip(":>") {
		n.N = 2
	}
	if n.N != 0 {
		n.Kids = append(n.Kids, r.sig())
	}
	r.expect("=")
	n.Kids = append(n.Kids, r.choose(r.bodies))
	return n
}

func (r *reader) structBody() api.Node {
	n := api.Node{Kind: api.SBody, At: r.take().At}
	n.Kids = r.decs(r.inners)
	r.expect("end")
	return n
}

func (r *reader) pathBody() api.Node { return single(api.SPath, r.path(api.TokUpper)) }

func (r *reader) signatureDec() api.Node { return r.signed(api.DSig, "=") }

func (r *reader) openDec() api.Node {
	at := r.take().At
	return api.Node{Kind: api.DOpen, At: at, Name: r.path(api.TokUpper).Text}
}

func (r *reader) sig() api.Node {
	return r.deeper(func() api.Node { return r.choose(r.sigs) })
}

func (r *reader) sigBody() api.Node {
	n := api.Node{Kind: api.GBody, At: r.take().At}
	for r.begins(r.specs) {
		n.Kids = append(n.Kids, r.choose(r.specs))
	}
	r.expect("end")
	return n
}

func (r *reader) structureSpec() api.Node { return r.signed(api.GStruct, ":") }

// signed reads a name, a sign, and a signature.
func (r *reader) signed(kind int, sign string) api.Node {
	at := r.take().At
	n := api.Node{Kind: kind, At: at, Name: r.name(api.TokUpper).Text}
	r.expect(sign)
	n.Kids = []api.Node{r.sig()}
	return n
}

func (r *reader) valSpec() api.Node {
	at := r.take().At
	n := api.Node{Kind: api.GVal, At: at, Name: r.name(api.TokLower).Text}
	r.expect(":")
	n.Kids = []api.Node{r.typ()}
	return n
}

func (r *reader) typeSpec() api.Node {
	at := r.take().At
	n := r.head(api.GType)
	n.At = at
	if r.skip("=") {
		n.Kids = append(n.Kids, r.typ())
	}
	return n
}
