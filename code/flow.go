package code

import "mlcore/api"

// stack is how many values and tries there are ahead of an instruction, if that is known.
type stack struct {
	known         bool
	values, tries int
}

// flow is what is known of a function's instructions, and of the place behind the last one.
type flow struct {
	code  api.Code
	ahead []stack
}

// flows asks whether the stack is as it must be, all through a function whose operands are as
// they must be; if not, it tells at which instruction.
func flows(c api.Code, list []api.Ins) (int, bool) {
	w := flow{code: c, ahead: make([]stack, len(list)+1)}
	w.ahead[0].known = true
	for i, in := range list {
		if !w.step(i, in) {
			return i, false
		}
	}
	return len(list), !w.ahead[len(list)].known
}

// step goes through an instruction.
func (w *flow) step(i int, in api.Ins) bool {
	s, takes := w.ahead[i], Takes(w.code, in)
	if !s.known || s.values < takes {
		return false
	}
	s.values += shapes[in.Op].puts - takes
	switch in.Op {
	case api.InReturn, api.InTail:
		return s.values == 0 && s.tries == 0
	case api.InRaise:
		return true
	case api.InJump:
		return w.reach(in.A, s)
	case api.InUnless:
		return w.reach(in.A, s) && w.reach(i+1, s)
	case api.InTry:
		raised := s
		raised.values++
		s.tries++
		return w.reach(in.A, raised) && w.reach(i+1, s)
	case api.InEnd:
		s.tries--
		return s.tries >= 0 && w.reach(i+1, s)
	}
	return w.reach(i+1, s)
}

// Takes is how many values an instruction takes; its operands are as they must be in its code.
func Takes(c api.Code, in api.Ins) int {
	switch in.Op {
	case api.InBlock:
		return in.B
	case api.InMake:
		return c.Funs[in.A].Free
	case api.InSign:
		if signs[in.A] == "!" || signs[in.A] == "~" {
			return 1
		}
		return 2
	}
	return shapes[in.Op].takes
}

// reach says what is known ahead of an instruction. One that has been gone through is known:
// so only one that is behind can be told anything new.
func (w *flow) reach(at int, s stack) bool {
	if s.values > api.MaxStack {
		return false
	}
	if w.ahead[at].known {
		return w.ahead[at] == s
	}
	w.ahead[at] = s
	return true
}
