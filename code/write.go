package code

import "mlcore/api"

// fits asks whether everything of a code has a place in the bytes.
func fits(c api.Code) bool {
	if len(c.Texts) > maxTwo || len(c.Funs) > maxTwo {
		return false
	}
	for _, s := range c.Texts {
		if len(s) > api.MaxStr {
			return false
		}
	}
	for _, f := range c.Funs {
		if !funFits(f) {
			return false
		}
	}
	return true
}

func funFits(f api.CodeFun) bool {
	if !isTwo(f.Free) || !isTwo(f.Slots) || len(f.Ins) > maxTwo {
		return false
	}
	for _, in := range f.Ins {
		if !below(in.Op, len(shapes)) || !operandsFit(in) {
			return false
		}
	}
	return true
}

func operandsFit(in api.Ins) bool {
	switch shapes[in.Op].operands {
	case wideA:
		return isNumber(in.A) && in.B == 0
	case onlyA:
		return isTwo(in.A) && in.B == 0
	case both:
		return isTwo(in.A) && isTwo(in.B)
	}
	return in.A == 0 && in.B == 0
}

func isTwo(n int) bool    { return below(n, maxTwo+1) }
func isNumber(n int) bool { return -api.MaxInt <= n && n <= api.MaxInt }

// length is how many bytes a code has.
func length(c api.Code) int {
	n := len(head) + 2 + 2
	for _, s := range c.Texts {
		n += 1 + len(s)
	}
	for _, f := range c.Funs {
		n += 3 * 2
		for _, in := range f.Ins {
			n += 1 + widths[shapes[in.Op].operands]
		}
	}
	return n
}

// writer writes a code that fits.
type writer struct{ bytes []byte }

func (w *writer) text(s string) { w.bytes = append(w.bytes, s...) }
func (w *writer) one(n int)     { w.bytes = append(w.bytes, byte(n)) }
func (w *writer) two(n int)     { w.bytes = append(w.bytes, byte(n>>8), byte(n)) }

func (w *writer) code(c api.Code) {
	w.text(head)
	w.two(len(c.Texts))
	for _, s := range c.Texts {
		w.one(len(s))
		w.text(s)
	}
	w.two(len(c.Funs))
	for _, f := range c.Funs {
		w.fun(f)
	}
}

func (w *writer) fun(f api.CodeFun) {
	w.two(f.Free)
	w.two(f.Slots)
	w.two(len(f.Ins))
	for _, in := range f.Ins {
		w.ins(in)
	}
}

func (w *writer) ins(in api.Ins) {
	w.one(in.Op)
	switch shapes[in.Op].operands {
	case wideA:
		w.two(in.A >> 16)
		w.two(in.A)
	case onlyA:
		w.two(in.A)
	case both:
		w.two(in.A)
		w.two(in.B)
	}
}
