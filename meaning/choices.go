package meaning

type choice struct{ asked, yes, no expression }

func (e *choice) begin(r *run, names *link) {
	r.wait(&choosing{e, names})
	r.evaluate(e.asked, names)
}

type choosing struct {
	*choice
	names *link
}

func (w *choosing) take(r *run, v value) {
	if isTrue(v) {
		r.evaluate(w.yes, w.names)
		return
	}
	r.evaluate(w.no, w.names)
}

// decision is two expressions of which the first one alone decides, if it is so.
type decision struct {
	first, second expression
	decides       bool
}

func (e *decision) begin(r *run, names *link) {
	r.wait(&deciding{e, names})
	r.evaluate(e.first, names)
}

type deciding struct {
	*decision
	names *link
}

func (w *deciding) take(r *run, v value) {
	if isTrue(v) == w.decides {
		r.answer(v)
		return
	}
	r.evaluate(w.second, w.names)
}

// cases is an expression whose value is matched with rules.
type cases struct {
	of expression
	rules
}

func (e *cases) begin(r *run, names *link) {
	r.wait(&matching{e, names})
	r.evaluate(e.of, names)
}

type matching struct {
	*cases
	names *link
}

func (w *matching) take(r *run, v value) {
	if !w.choose(r, v, w.names) {
		r.raise(matchFails)
	}
}

// attempt is an expression whose exceptions are matched with rules.
type attempt struct {
	of expression
	rules
}

func (e *attempt) begin(r *run, names *link) {
	r.wait(&trying{e, names})
	r.evaluate(e.of, names)
}

type trying struct {
	*attempt
	names *link
}

func (w *trying) take(r *run, v value) { r.answer(v) }

// handles goes on with what was raised, if a rule matches it.
func (w *trying) handles(r *run) bool {
	ok := w.choose(r, r.raised, w.names)
	if ok {
		r.raised = nil
	}
	return ok
}

type raise struct{ kid expression }

func (e raise) begin(r *run, names *link) {
	r.wait(raising{})
	r.evaluate(e.kid, names)
}

type raising struct{}

func (raising) take(r *run, v value) { r.raised = v.(*exn) }
