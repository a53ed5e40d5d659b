package meaning

// use is a number, a string, or a name.
type use struct{ source }

func (e use) begin(r *run, names *link) { r.answer(e.from(names)) }

// several is expressions that are evaluated from the left, and what is made of
// their values: a tuple, a list, or what an operator says.
type several struct {
	kids []expression
	made func([]value) (value, int)
}

func (e *several) begin(r *run, names *link) {
	w := &collecting{e, names, make([]value, 0, min(len(e.kids), fewValues))}
	w.goOn(r)
}

// fewValues is for how many values there is room ahead of time. For more than
// these it comes with the steps that they take.
const fewValues = 2

type collecting struct {
	*several
	names  *link
	values []value
}

func (w *collecting) goOn(r *run) {
	r.wait(w)
	r.evaluate(w.kids[len(w.values)], w.names)
}

func (w *collecting) take(r *run, v value) {
	w.values = append(w.values, v)
	if len(w.values) < len(w.kids) {
		w.goOn(r)
		return
	}
	r.give(w.made(w.values))
}

// lambda is a function that is written out.
type lambda struct{ *rule }

func (e lambda) begin(r *run, names *link) { r.answer(&closure{e.rule, names}) }

type application struct{ function, argument expression }

func (e *application) begin(r *run, names *link) {
	r.wait(&applying{e.argument, names})
	r.evaluate(e.function, names)
}

type applying struct {
	argument expression
	names    *link
}

func (w *applying) take(r *run, v value) {
	r.wait(&calling{v.(applicable)})
	r.evaluate(w.argument, w.names)
}

type calling struct{ function applicable }

func (w *calling) take(r *run, v value) { w.function.apply(r, v) }

// annotated is an expression with its type.
type annotated struct{ kid expression }

func (e annotated) begin(r *run, names *link) { r.evaluate(e.kid, names) }

// sequence is expressions of which the last one's value counts.
type sequence []expression

func (e sequence) begin(r *run, names *link) { e.from(r, 0, names) }

func (e sequence) from(r *run, i int, names *link) {
	if i < len(e)-1 {
		r.wait(&following{e, i + 1, names})
	}
	r.evaluate(e[i], names)
}

type following struct {
	sequence
	i     int
	names *link
}

func (w *following) take(r *run, _ value) { w.from(r, w.i, w.names) }

// block is declarations, and what is evaluated with their names: of a program nothing.
type block struct {
	vals []val
	last expression
}

// val is what a declaration does: all but val do nothing.
type val struct {
	pattern
	exp expression
}

func (e *block) begin(r *run, names *link) { e.from(r, 0, names) }

func (e *block) from(r *run, i int, names *link) {
	switch {
	case i < len(e.vals):
		r.wait(&declaring{e, i, names})
		r.evaluate(e.vals[i].exp, names)
	case e.last != nil:
		r.evaluate(e.last, names)
	default:
		r.answer(tuple{})
	}
}

type declaring struct {
	*block
	i     int
	names *link
}

func (w *declaring) take(r *run, v value) {
	if !fits(w.vals[w.i].pattern, v, w.names) {
		r.raise(bindFails)
		return
	}
	w.from(r, w.i+1, w.names.with(v))
}
