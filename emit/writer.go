package emit

import "mlcore/api"

// writer writes the instructions of a function.
type writer struct {
	texts  *texts
	arrays *arrays // nil in their own code
	list   []api.Ins
	over   bool // nothing comes to what is behind the last one
}

// put puts instructions behind the last one. One that nothing would come to is left out:
// it could not be known what there is ahead of it, and so the code could not be run.
func (w *writer) put(list ...api.Ins) {
	for _, in := range list {
		if w.over {
			return
		}
		w.list = append(w.list, in)
		w.over = leaves(in.Op)
	}
}

// leaves asks whether an instruction never goes on with the next one.
func leaves(op int) bool {
	switch op {
	case api.InJump, api.InReturn, api.InTail, api.InRaise:
		return true
	}
	return false
}

// label is a place that instructions ahead of it go to.
type label struct {
	values int   // how many there are at it
	from   []int // these instructions
}

// goTo puts an instruction that goes to a label; where that is, it is told later.
func (w *writer) goTo(l *label, op int) {
	if w.over {
		return
	}
	l.from = append(l.from, len(w.list))
	w.put(api.Ins{Op: op})
}

// here is where a label is.
func (w *writer) here(l *label) {
	for _, i := range l.from {
		w.list[i].A = len(w.list)
		w.over = false
	}
}

// instead puts what is done at a label, and not behind what was put last: behind it both
// ways are one.
func (w *writer) instead(l *label, other func()) {
	if len(l.from) == 0 {
		return
	}
	var end label
	w.goTo(&end, api.InJump)
	w.here(l)
	other()
	w.here(&end)
}
