package code

import (
	"strconv"
	"strings"

	"mlcore/api"
)

// refusal is a fault, told as an error.
type refusal struct{ fault api.Fault }

func (r refusal) Error() string {
	return "fault " + strconv.Itoa(int(r.fault.Kind)) + " at " + strconv.Itoa(r.fault.At)
}

func refuse(kind api.Errno, at int) error { return refusal{api.Fault{Kind: kind, At: at}} }

// reader reads the bytes of a code from the left.
type reader struct {
	bytes string
	at    int
}

func (r *reader) left() int { return len(r.bytes) - r.at }

// take takes the next n bytes.
func (r *reader) take(n int) (string, error) {
	if n > r.left() {
		return "", refuse(api.ErrEnd, len(r.bytes))
	}
	s := r.bytes[r.at : r.at+n]
	r.at += n
	return s, nil
}

// natural takes a number of so many bytes that has no sign.
func (r *reader) natural(width int) (int, error) {
	s, err := r.take(width)
	n := 0
	for i := range len(s) {
		n = n<<8 | int(s[i])
	}
	return n, err
}

func (r *reader) two() (int, error) { return r.natural(2) }

// number takes a number of a program.
func (r *reader) number() (int, error) {
	at := r.at
	bits, err := r.natural(4)
	n := int(int32(uint32(bits)))
	if err == nil && !isNumber(n) {
		err = refuse(api.ErrNumber, at)
	}
	return n, err
}

// list takes how many things there are, and these.
func list[T any](r *reader, thing func(*reader) (T, error)) ([]T, error) {
	n, err := r.two()
	if err != nil {
		return nil, err
	}
	// Each thing has a byte at least: bytes that only say that they have many take no memory for them.
	l := make([]T, 0, min(n, r.left()))
	for range n {
		x, err := thing(r)
		if err != nil {
			return nil, err
		}
		l = append(l, x)
	}
	return l, nil
}

func (r *reader) code() (c api.Code, err error) {
	if err = r.head(); err != nil {
		return c, err
	}
	if c.Texts, err = list(r, (*reader).text); err != nil {
		return c, err
	}
	if c.Funs, err = list(r, (*reader).fun); err != nil {
		return c, err
	}
	if r.left() > 0 {
		err = refuse(api.ErrEnd, r.at)
	}
	return c, err
}

func (r *reader) head() error {
	if len(r.bytes) > api.MaxCode {
		return refuse(api.ErrLong, 0)
	}
	for i := range len(head) {
		b, err := r.take(1)
		if err != nil {
			return err
		}
		if b[0] != head[i] {
			return refuse(api.ErrHead, i)
		}
	}
	return nil
}

func (r *reader) text() (string, error) {
	at := r.at
	n, err := r.natural(1)
	if err != nil {
		return "", err
	}
	if n > api.MaxStr {
		return "", refuse(api.ErrNumber, at)
	}
	s, err := r.take(n)
	return strings.Clone(s), err // a part of the bytes would keep all of them
}

func (r *reader) fun() (f api.CodeFun, err error) {
	if f.Free, err = r.two(); err != nil {
		return f, err
	}
	if f.Slots, err = r.two(); err != nil {
		return f, err
	}
	f.Ins, err = list(r, (*reader).ins)
	return f, err
}

func (r *reader) ins() (in api.Ins, err error) {
	at := r.at
	if in.Op, err = r.natural(1); err != nil {
		return in, err
	}
	if !below(in.Op, len(shapes)) {
		return in, refuse(api.ErrOp, at)
	}
	switch shapes[in.Op].operands {
	case wideA:
		in.A, err = r.number()
	case onlyA:
		in.A, err = r.two()
	case both:
		if in.A, err = r.two(); err == nil {
			in.B, err = r.two()
		}
	}
	return in, err
}
