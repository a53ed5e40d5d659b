package code

import (
	"encoding/binary"
	"io"
	"strings"

	"mlcore/api"
)

// slowDecode reads bytes by another way: it takes them from a stream, and what is wrong is a panic.
func slowDecode(s string) (c api.Code, f api.Fault) {
	defer func() {
		switch x := recover().(type) {
		case nil:
		case api.Fault:
			c, f = api.Code{}, x
		default: // the stream has ended
			c, f = api.Code{}, api.Fault{Kind: api.ErrEnd, At: len(s)}
		}
	}()
	if len(s) > api.MaxCode {
		panic(api.Fault{Kind: api.ErrLong})
	}
	r := &stream{strings.NewReader(s), len(s)}
	for _, b := range []byte("ML1") {
		r.expect(api.ErrHead, func(n int) bool { return n == int(b) })
	}
	c.Texts = make([]string, take[uint16](r))
	for i := range c.Texts {
		bytes := make([]byte, r.expect(api.ErrNumber, func(n int) bool { return n <= api.MaxStr }))
		r.must(io.ReadFull(r, bytes))
		c.Texts[i] = string(bytes)
	}
	c.Funs = make([]api.CodeFun, take[uint16](r))
	for i := range c.Funs {
		c.Funs[i] = api.CodeFun{Free: take[uint16](r), Slots: take[uint16](r), Ins: make([]api.Ins, take[uint16](r))}
		for k := range c.Funs[i].Ins {
			c.Funs[i].Ins[k] = r.ins()
		}
	}
	if r.Len() > 0 {
		panic(api.Fault{Kind: api.ErrEnd, At: r.at()})
	}
	return c, f
}

type stream struct {
	*strings.Reader
	size int
}

func (r *stream) at() int { return r.size - r.Len() }

func (r *stream) must(_ int, err error) {
	if err != nil {
		panic(err)
	}
}

func take[T uint8 | uint16 | int32](r *stream) int {
	var n T
	r.must(0, binary.Read(r, binary.BigEndian, &n))
	return int(n)
}

// expect takes a byte that has to be as asked.
func (r *stream) expect(kind api.Errno, ok func(int) bool) int {
	at := r.at()
	n := take[uint8](r)
	if !ok(n) {
		panic(api.Fault{Kind: kind, At: at})
	}
	return n
}

func (r *stream) ins() api.Ins {
	x := api.Ins{Op: r.expect(api.ErrOp, func(n int) bool { return n < api.Inss })}
	twos, hasNumber := operandsOf(x.Op)
	if at := r.at(); hasNumber {
		x.A = take[int32](r)
		if x.A > api.MaxInt || x.A < -api.MaxInt {
			panic(api.Fault{Kind: api.ErrNumber, At: at})
		}
	}
	if twos > 0 {
		x.A = take[uint16](r)
	}
	if twos > 1 {
		x.B = take[uint16](r)
	}
	return x
}

// slowCheck says by another way whether a code can be run: it keeps all that it comes to know as a row of facts.
func slowCheck(c api.Code) api.Fault {
	if n := len(c.Funs); n == 0 || n > 60000 || c.Funs[0].Free > 0 {
		return api.Fault{Kind: api.ErrNumber}
	}
	at := 0
	for number, f := range c.Funs {
		for i, x := range f.Ins {
			if kind := slowOperands(c, number, x); kind != api.OK {
				return api.Fault{Kind: kind, At: at + i}
			}
		}
		if i := slowFlow(c, f.Ins); i >= 0 {
			return api.Fault{Kind: api.ErrFlow, At: at + i}
		}
		at += len(f.Ins)
	}
	return api.Fault{}
}

func slowOperands(c api.Code, number int, x api.Ins) api.Errno {
	f := c.Funs[number]
	switch {
	case (x.Op == api.InJump || x.Op == api.InUnless || x.Op == api.InTry) && x.A >= len(f.Ins):
		return api.ErrJump
	case (x.Op == api.InStr || x.Op == api.InExn) && x.A >= len(c.Texts),
		x.Op == api.InBase && x.A >= 12,
		x.Op == api.InArg && number == 0,
		x.Op == api.InFree && x.A >= f.Free,
		(x.Op == api.InSlot || x.Op == api.InStore || x.Op == api.InPatch) && x.A >= f.Slots,
		x.Op == api.InBlock && x.B == 0,
		x.Op == api.InSign && x.A >= 15,
		x.Op == api.InMake && (x.A == 0 || x.A >= len(c.Funs)),
		x.Op == api.InExn && x.B > 1,
		x.Op == api.InStd && x.A >= 6:
		return api.ErrNumber
	}
	return api.OK
}

// fact is what is known ahead of an instruction.
type fact struct{ place, values, tries int }

type facts []fact

func (l facts) of(place int) (fact, bool) {
	for _, k := range l {
		if k.place == place {
			return k, true
		}
	}
	return fact{}, false
}

// slowFlow is the instruction at which a function does not flow, or -1.
func slowFlow(c api.Code, list []api.Ins) int {
	known := facts{{}}
	for i, x := range list {
		k, ok := known.of(i)
		if !ok {
			return i
		}
		told, ok := slowStep(c, i, x, k)
		if !ok {
			return i
		}
		for _, n := range told {
			old, ok := known.of(n.place)
			if n.values > api.MaxStack || ok && old != n || !ok && n.place <= i {
				return i
			}
			known = append(known, n)
		}
	}
	if _, on := known.of(len(list)); on {
		return len(list)
	}
	return -1
}

// slowStep is what is known behind an instruction, and where.
func slowStep(c api.Code, i int, x api.Ins, k fact) (told []fact, ok bool) {
	takes, puts := slowEffect(c, x)
	if k.values < takes {
		return nil, false
	}
	left := k.values - takes
	next := fact{i + 1, left + puts, k.tries}
	there := fact{x.A, left, k.tries}
	switch x.Op {
	case api.InReturn, api.InTail:
		return nil, left == 0 && k.tries == 0
	case api.InRaise:
		return nil, true
	case api.InJump:
		return []fact{there}, true
	case api.InUnless:
		return []fact{there, next}, true
	case api.InTry:
		return []fact{{x.A, k.values + 1, k.tries}, {i + 1, k.values, k.tries + 1}}, true
	case api.InEnd:
		return []fact{{i + 1, k.values, k.tries - 1}}, k.tries > 0
	}
	return []fact{next}, true
}

func slowEffect(c api.Code, x api.Ins) (takes, puts int) {
	switch x.Op {
	case api.InJump, api.InTry, api.InEnd:
		return 0, 0
	case api.InInt, api.InStr, api.InBase, api.InArg, api.InFree, api.InSlot, api.InExn, api.InStd:
		return 0, 1
	case api.InStore, api.InPatch, api.InDrop, api.InUnless, api.InReturn, api.InRaise:
		return 1, 0
	case api.InTail:
		return 2, 0
	case api.InSame, api.InCall:
		return 2, 1
	case api.InBlock:
		return x.B, 1
	case api.InMake:
		return c.Funs[x.A].Free, 1
	case api.InSign:
		if x.A == 12 || x.A == 14 {
			return 1, 1
		}
		return 2, 1
	}
	return 1, 1 // InField, InIsInt, InIsBlock
}
