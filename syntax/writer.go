package syntax

import (
	"maps"
	"strconv"
	"strings"

	"mlcore/api"
	"mlcore/lexer"
)

// mostNodes is more than a text of MaxText bytes has. Other trees may stand
// within themselves; of these no more is written.
const mostNodes = 4 * api.MaxText

// writer writes nodes as tokens.
type writer struct {
	forms map[int][]part
	out   []byte
	left  int // how many nodes may still be written
}

// part writes something of a node.
type part func(*spot)

// spot is a node that is being written, and which of its kids comes next.
type spot struct {
	*writer
	node api.Node
	next int
}

// forms has the parts of each kind, in their order.
func forms() map[int][]part {
	list := expForms()
	maps.Copy(list, patForms())
	maps.Copy(list, typeForms())
	maps.Copy(list, decForms())
	return list
}

func expForms() map[int][]part {
	return map[int][]part{
		api.EInt:   {(*spot).number},
		api.EStr:   {(*spot).quoted},
		api.EVar:   {(*spot).path},
		api.ECon:   {(*spot).path},
		api.ETuple: {token("("), all(","), token(")")},
		api.EList:  {token("["), all(","), token("]")},
		api.EFn:    {token("fn"), kid(2), token("=>"), kid(0)},
		api.EApp:   {kid(levelApply), kid(levelUnary)},
		api.EIf:    {token("if"), kid(0), token("then"), kid(0), token("else"), kid(0)},
		api.ECase:  {token("case"), kid(0), token("of"), all("|"), token("end")},
		api.ETry:   {token("try"), kid(0), token("with"), all("|"), token("end")},
		api.Rule:   {kid(0), token("=>"), kid(0)},
		api.ERaise: {token("raise"), kid(0)},
		api.ELet:   {token("let"), allButLast(0), token("in"), kid(0), token("end")},
		api.ESeq:   {token("("), all(";"), token(")")},
		api.EAnd:   {(*spot).operation},
		api.EOr:    {(*spot).operation},
		api.EOp:    {(*spot).operation},
		api.EHas:   {token("("), kid(0), token(":"), kid(0), token(")")},
	}
}

func patForms() map[int][]part {
	return map[int][]part{
		api.PAny:   {token("_")},
		api.PVar:   {(*spot).path},
		api.PInt:   {(*spot).number},
		api.PStr:   {(*spot).quoted},
		api.PCon:   {(*spot).path, kid(2)},
		api.PTuple: {token("("), all(","), token(")")},
		api.PList:  {token("["), all(","), token("]")},
		api.PCons:  {kid(1), token("::"), kid(0)},
		api.PAs:    {token("("), (*spot).path, token("as"), kid(0), token(")")},
		api.PHas:   {token("("), kid(0), token(":"), kid(0), token(")")},
	}
}

func typeForms() map[int][]part {
	return map[int][]part{
		api.YVar:   {(*spot).path},
		api.YCon:   {(*spot).arguments, (*spot).path},
		api.YTuple: {(*spot).product},
		api.YArrow: {kid(1), token("->"), kid(0)},
	}
}

func decForms() map[int][]part {
	return map[int][]part{
		api.Prog:    {all("")},
		api.DVal:    {token("val"), kid(0), token("="), kid(0)},
		api.DFun:    {token("fun"), all("and")},
		api.FBind:   {(*spot).path, allButLast(2), token("="), kid(0)},
		api.DType:   {token("type"), (*spot).head, token("="), kid(0)},
		api.DData:   {token("data"), all("and")},
		api.DBind:   {(*spot).head, token("="), all("|")},
		api.Con:     {(*spot).path, behind("of")},
		api.DExn:    {token("exception"), (*spot).path, behind("of")},
		api.DStruct: {token("structure"), (*spot).path, (*spot).ascription, token("="), kid(0)},
		api.DSig:    {token("signature"), (*spot).path, token("="), kid(0)},
		api.DOpen:   {token("open"), (*spot).path},
		api.SBody:   {token("struct"), all(""), token("end")},
		api.SPath:   {(*spot).path},
		api.GBody:   {token("sig"), all(""), token("end")},
		api.GName:   {(*spot).path},
		api.GVal:    {token("val"), (*spot).path, token(":"), kid(0)},
		api.GType:   {token("type"), (*spot).head, behind("=")},
		api.GStruct: {token("structure"), (*spot).path, token(":"), kid(0)},
	}
}

// write writes a node, in brackets if its level is below the least one.
func (w *writer) write(n api.Node, least int) {
	w.left--
	inner := levelOf(n) < least
	if inner {
		w.put("(")
	}
	s := spot{writer: w, node: n}
	for _, p := range w.forms[n.Kind] {
		p(&s)
	}
	if inner {
		w.put(")")
	}
}

func (w *writer) put(token string) {
	if len(w.out) > 0 {
		w.out = append(w.out, ' ')
	}
	w.out = append(w.out, token...)
}

// levelOf is a node's level among those of its sort: expressions, patterns, or
// types. Of the last two nothing above 2 is asked for.
func levelOf(n api.Node) int {
	switch n.Kind {
	case api.EFn, api.EIf, api.ERaise, api.PCons, api.YArrow:
		return 0
	case api.YTuple:
		return 1
	case api.PCon:
		if len(n.Kids) > 0 {
			return 1
		}
	case api.EApp:
		return levelApply
	case api.EAnd, api.EOr, api.EOp:
		if op, ok := operatorOf(n); ok {
			return op.level
		}
		return levelUnary
	}
	return levelClosed
}

func token(text string) part { return func(s *spot) { s.put(text) } }

// kid writes the next kid, if there is one.
func kid(least int) part { return func(s *spot) { s.kid(least) } }

// all writes the kids that are left, with a sign between, and none in brackets.
func all(sign string) part {
	return func(s *spot) { s.some(len(s.node.Kids), sign, 0) }
}

func allButLast(least int) part {
	return func(s *spot) { s.some(len(s.node.Kids)-1, "", least) }
}

// behind writes a token and the next kid, if there is one.
func behind(text string) part {
	return func(s *spot) {
		if s.more() {
			s.put(text)
			s.kid(0)
		}
	}
}

// more asks whether there is a kid left, and room for it.
func (s *spot) more() bool { return s.next < len(s.node.Kids) && s.left > 0 }

func (s *spot) kid(least int) {
	if s.more() {
		s.next++
		s.write(s.node.Kids[s.next-1], least)
	}
}

// some writes the kids up to an end, with a sign between, if it is one.
func (s *spot) some(end int, sign string, least int) {
	for first := true; s.next < end && s.more(); first = false {
		if !first && sign != "" {
			s.put(sign)
		}
		s.kid(least)
	}
}

func (s *spot) path() { s.put(strings.ReplaceAll(s.node.Name, ".", " . ")) }

func (s *spot) quoted() { s.put(lexer.Quote(s.node.Name)) }

func (s *spot) number() {
	n := s.node.N
	if n < 0 {
		s.put("~")
		n = -n
	}
	s.put(strconv.Itoa(n))
}

func (s *spot) operation() {
	op, ok := operatorOf(s.node)
	if !ok {
		s.put(s.node.Name)
		s.kid(levelUnary)
		return
	}
	s.kid(op.left)
	s.put(op.text)
	s.kid(op.right)
}

func (s *spot) product() { s.some(len(s.node.Kids), "*", 2) }

// arguments writes what a type's name stands behind.
func (s *spot) arguments() { s.few(len(s.node.Kids)) }

// head writes a declared type's variables and its name.
func (s *spot) head() {
	s.few(s.node.N)
	s.path()
}

// few writes one type by itself, and several in brackets.
func (s *spot) few(end int) {
	if end < 2 {
		s.some(end, "", 2)
		return
	}
	s.put("(")
	s.some(end, ",", 0)
	s.put(")")
}

// ascription writes the signature of a structure that has one.
func (s *spot) ascription() {
	switch s.node.N {
	case 1:
		s.put(":")
		s.kid(0)
	case 2:
		s.put(":>")
		s.kid(0)
	}
}
