package code

import "mlcore/api"

// operands says what is wrong with the operands of an instruction of the function with this number.
func operands(c api.Code, number int, in api.Ins) api.Errno {
	f := c.Funs[number]
	ok := true
	switch in.Op {
	case api.InJump, api.InUnless, api.InTry:
		if !below(in.A, len(f.Ins)) {
			return api.ErrJump
		}
	case api.InStr:
		ok = below(in.A, len(c.Texts))
	case api.InExn:
		ok = below(in.A, len(c.Texts)) && below(in.B, 2)
	case api.InBase:
		ok = below(in.A, len(bases))
	case api.InSign:
		ok = below(in.A, len(signs))
	case api.InStd:
		ok = below(in.A, len(exceptions))
	case api.InArg:
		ok = number > 0
	case api.InFree:
		ok = below(in.A, f.Free)
	case api.InSlot, api.InStore, api.InPatch:
		ok = below(in.A, f.Slots)
	case api.InBlock:
		ok = in.B > 0
	case api.InMake:
		ok = in.A > 0 && in.A < len(c.Funs)
	default:
		// Encode writes no other Op, but none may be looked for in the tables.
		if !below(in.Op, len(shapes)) {
			return api.ErrOp
		}
	}
	if !ok {
		return api.ErrNumber
	}
	return api.OK
}
