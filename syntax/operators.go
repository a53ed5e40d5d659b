package syntax

import "mlcore/api"

// The levels of expressions: what has a higher one holds its parts together more strongly.
const (
	levelOpen = iota // what goes on as far as it can: fn, if, raise
	levelSet
	levelOr
	levelAnd
	levelCompare
	levelList
	levelSum
	levelProduct
	levelApply
	levelUnary
	levelClosed
)

// operator is a sign or word between two expressions, and the levels that
// those on its left and on its right must have at least.
type operator struct {
	text               string
	kind               int
	level, left, right int
}

// Reading and writing share the levels, so that what is written is read as it was.
var operators = [...]operator{
	{":=", api.EOp, levelSet, levelOr, levelOr},
	{"orelse", api.EOr, levelOr, levelOr, levelAnd},
	{"andalso", api.EAnd, levelAnd, levelAnd, levelCompare},
	{"=", api.EOp, levelCompare, levelList, levelList},
	{"<>", api.EOp, levelCompare, levelList, levelList},
	{"<", api.EOp, levelCompare, levelList, levelList},
	{"<=", api.EOp, levelCompare, levelList, levelList},
	{">", api.EOp, levelCompare, levelList, levelList},
	{">=", api.EOp, levelCompare, levelList, levelList},
	{"::", api.EOp, levelList, levelSum, levelList},
	{"+", api.EOp, levelSum, levelSum, levelProduct},
	{"-", api.EOp, levelSum, levelSum, levelProduct},
	{"^", api.EOp, levelSum, levelSum, levelProduct},
	{"*", api.EOp, levelProduct, levelProduct, levelApply},
	{"/", api.EOp, levelProduct, levelProduct, levelApply},
	{"%", api.EOp, levelProduct, levelProduct, levelApply},
}

// operatorOf is the operator that a node has between its kids.
func operatorOf(n api.Node) (operator, bool) {
	for _, op := range operators {
		if op.kind == n.Kind && (n.Kind != api.EOp || op.text == n.Name) {
			return op, true
		}
	}
	return operator{}, false
}

// join makes the node of an operator between two expressions.
func (op operator) join(a, b api.Node) api.Node {
	n := pair(op.kind, a, b)
	if op.kind == api.EOp {
		n.Name = op.text
	}
	return n
}
