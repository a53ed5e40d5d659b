package code

import "mlcore/api"

// head is what the bytes of a code begin with.
const head = "ML1"

const (
	maxTwo  = 65535 // the greatest number that stands in 2 bytes
	maxFuns = 60000 // from there on numbers are of functions that are there from the beginning
)

// How the operands of an instruction stand in bytes.
const (
	none  = iota
	wideA // A in 4 bytes
	onlyA // A in 2 bytes
	both  // A and B in 2 bytes each
)

// How many bytes they are then.
var widths = [...]int{none: 0, wideA: 4, onlyA: 2, both: 4}

// shape is what is the same for all instructions of one Op.
type shape struct {
	operands int
	takes    int // how many values; varies: that hangs on its operands
	puts     int
}

const varies = -1

var shapes = [api.Inss]shape{
	api.InInt:     {wideA, 0, 1},
	api.InStr:     {onlyA, 0, 1},
	api.InBase:    {onlyA, 0, 1},
	api.InArg:     {none, 0, 1},
	api.InFree:    {onlyA, 0, 1},
	api.InSlot:    {onlyA, 0, 1},
	api.InStore:   {onlyA, 1, 0},
	api.InBlock:   {both, varies, 1},
	api.InField:   {onlyA, 1, 1},
	api.InIsInt:   {wideA, 1, 1},
	api.InIsBlock: {onlyA, 1, 1},
	api.InSame:    {none, 2, 1},
	api.InSign:    {onlyA, varies, 1},
	api.InMake:    {onlyA, varies, 1},
	api.InPatch:   {both, 1, 0},
	api.InCall:    {none, 2, 1},
	api.InTail:    {none, 2, 0},
	api.InReturn:  {none, 1, 0},
	api.InJump:    {onlyA, 0, 0},
	api.InUnless:  {onlyA, 1, 0},
	api.InTry:     {onlyA, 0, 0},
	api.InEnd:     {none, 0, 0},
	api.InRaise:   {none, 1, 0},
	api.InExn:     {both, 0, 1},
	api.InStd:     {onlyA, 0, 1},
	api.InDrop:    {none, 1, 0},
}

var signs = [15]string{"+", "-", "*", "/", "%", "<", "<=", ">", ">=", "=", "<>", "^", "!", ":=", "~"}

var bases = [12]string{"not", "print", "str", "size", "sub", "part", "chr", "ref", "array", "length", "at", "put"}

var exceptions = [6]string{"Match", "Bind", "Overflow", "Div", "Bounds", "Size"}

// Signs has the signs of InSign, each at its number.
func Signs() [15]string { return signs }

// Bases has the functions of InBase, each at its number.
func Bases() [12]string { return bases }

// Exceptions has the exceptions of InStd, each at its number.
func Exceptions() [6]string { return exceptions }

// below asks whether a number is one of the first n, from 0 on.
func below(a, n int) bool { return 0 <= a && a < n }
