package emit

import (
	"slices"

	"mlcore/api"
	"mlcore/code"
)

// aBlock is the Of of a TIs that asks for a block.
const aBlock = 1

// instruction is that of a term which has one alone behind those of its kids.
func (w *writer) instruction(t api.Term) api.Ins {
	switch t.Op {
	case api.TInt:
		return api.Ins{Op: api.InInt, A: t.N}
	case api.TStr:
		return api.Ins{Op: api.InStr, A: w.texts.number(t.S)}
	case api.TVar:
		return api.Ins{Op: api.InStd, A: -1 - t.N}
	case api.TBase:
		return w.beginning(t.S)
	case api.TOp:
		names := code.Signs()
		return api.Ins{Op: api.InSign, A: slices.Index(names[:], t.S)}
	case api.TRaise:
		return api.Ins{Op: api.InRaise}
	case api.TIs:
		if t.Of == aBlock {
			return api.Ins{Op: api.InIsBlock, A: t.N}
		}
		return api.Ins{Op: api.InIsInt, A: t.N}
	case api.TField:
		return api.Ins{Op: api.InField, A: t.N}
	case api.TBlock:
		return api.Ins{Op: api.InBlock, A: t.N, B: len(t.Kids)}
	case api.TSame:
		return api.Ins{Op: api.InSame}
	case api.TSlot:
		return api.Ins{Op: api.InSlot, A: t.N}
	case api.TArg:
		return api.Ins{Op: api.InArg}
	case api.TFree:
		return api.Ins{Op: api.InFree, A: t.N}
	default: // TMake
		return api.Ins{Op: api.InMake, A: t.N}
	}
}

// beginning is the instruction of a function that is there from the beginning.
func (w *writer) beginning(name string) api.Ins {
	if w.arrays != nil && ofArrays(name) {
		return api.Ins{Op: api.InMake, A: w.arrays.number(name)}
	}
	names := code.Bases()
	return api.Ins{Op: api.InBase, A: slices.Index(names[:], name)}
}
