package meaning

import "mlcore/api"

// expression is what takes a step. It begins with the names that are there, and
// comes to an answer, to something that is raised, or to another expression.
type expression interface {
	begin(r *run, names *link)
}

// waiting is what waits for the value of an expression.
type waiting interface {
	take(r *run, v value)
}

// run is a program that is run. What comes next is an expression, or something
// that was raised, or else a value for what waits.
type run struct {
	next        expression
	names       *link
	raised      *exn
	value       value
	waits       []waiting // the last one takes the next value
	out         []byte
	first       []*declared // the exceptions that are there from the beginning
	root        *link
	steps, most int
}

func newRun(most int) *run {
	return &run{first: firstExceptions(), root: newLink(), most: most}
}

func (r *run) start(b *block) { b.from(r, 0, r.root) }

// goOn goes on for as long as it can, and says how the run stands then.
func (r *run) goOn() int {
going:
	for {
		switch {
		case r.next != nil:
			if r.steps == r.most {
				return api.Going
			}
			r.step()
		case r.raised != nil:
			for len(r.waits) > 0 {
				if w, ok := r.leave().(*trying); ok && w.handles(r) {
					continue going
				}
			}
			return api.Raised
		case len(r.waits) > 0:
			r.leave().take(r, r.value)
		default:
			return api.Done
		}
	}
}

func (r *run) step() {
	r.steps++
	e := r.next
	r.next = nil
	e.begin(r, r.names)
}

// tell is the outcome of a run that stands so.
func (r *run) tell(kind int) api.Outcome {
	o := api.Outcome{Kind: kind, Out: string(r.out), Steps: r.steps}
	if kind == api.Raised {
		o.Name = r.raised.by.name
	}
	return o
}

// wait lets something wait for the next value.
func (r *run) wait(w waiting) { r.waits = append(r.waits, w) }

// leave is what has waited the shortest; it does not wait any more.
func (r *run) leave() waiting {
	last := len(r.waits) - 1
	w := r.waits[last]
	r.waits[last] = nil
	r.waits = r.waits[:last]
	return w
}

func (r *run) evaluate(e expression, names *link) { r.next, r.names = e, names }

func (r *run) answer(v value) { r.value = v }

// raise raises one of the exceptions that are there from the beginning.
func (r *run) raise(failure int) {
	r.raised = &exn{by: exception{r.first[failure], r.root}}
}

// give answers, unless something has failed.
func (r *run) give(v value, failure int) {
	if failure != nothingFails {
		r.raise(failure)
		return
	}
	r.answer(v)
}
