package syntax

import (
	"math/rand"
	"strings"
	"testing"

	"mlcore/api"
)

func TestP2_2TextsThatAreNotRead(t *testing.T) {
	for _, p := range parsers {
		p.fails(t, strings.Repeat(" ", api.MaxText+1), api.ErrLong, 0)
		p.fails(t, ") \r"+strings.Repeat(" ", api.MaxText), api.ErrLong, 0)
		p.fails(t, ") $ \r", api.ErrByte, 4)
		p.fails(t, "\x80", api.ErrByte, 0)
	}
	exps.reads(t, "a"+strings.Repeat(" ", api.MaxText-1), "EVar@0:a")
}

// What is no token is told only where it would be looked at.
func TestP2_2Tokens(t *testing.T) {
	programs.fails(t, "$", api.ErrToken, 0)
	programs.fails(t, "val x = 1 $", api.ErrToken, 10)
	programs.fails(t, "val x = 1 (* (* *)", api.ErrToken, 10)
	programs.fails(t, "val x $ = ) 1", api.ErrToken, 6)
	programs.fails(t, "val ) $", api.ErrSyntax, 4)
	programs.fails(t, "val val $", api.ErrSyntax, 4)
	programs.fails(t, "val x = 1 ) $", api.ErrSyntax, 10)
	exps.fails(t, "a = b = $", api.ErrSyntax, 6)
	exps.fails(t, "(a $", api.ErrToken, 3)
	exps.fails(t, "A.$", api.ErrToken, 2)
	exps.fails(t, "A $", api.ErrToken, 2)
	exps.fails(t, "f 1000000001 )", api.ErrToken, 2)
	exps.fails(t, "raise $", api.ErrToken, 6)
	pats.fails(t, "($", api.ErrToken, 1)
	pats.fails(t, "(x $", api.ErrToken, 3)
	pats.fails(t, "(x as $", api.ErrToken, 6)
	pats.fails(t, "true x $", api.ErrSyntax, 5)
	types.fails(t, "(a, b) $", api.ErrToken, 7)
	types.fails(t, "a \"", api.ErrToken, 2)
}

// step is a way to go one thing deeper: a text, and what would be read behind it.
type step struct{ text, to string }

// steps has, for each thing that counts, all ways to what stands in it and counts.
// A `^` marks what stands in it ahead and counts likewise. Behind `!` what is
// read counts once more. Behind `*` the next token is looked at in any case,
// since it could end the bracket.
var steps = map[string][]step{
	"exp": {
		{"( ", "exp*"}, {"[ ", "exp*"}, {"( ^a , ", "exp"}, {"( ^a , b , ", "exp"}, {"( ^a ; ", "exp"}, {"( ^a ; b ; ", "exp"}, {"[ ^a , ", "exp"},
		{"( ^a : ", "type"}, {"if ", "exp"}, {"if ^a then ", "exp"}, {"if ^a then b else ", "exp"}, {"raise ", "exp"},
		{"fn x => ", "exp"}, {"fn ( ", "pat*"}, {"fn [ ", "pat*"}, {"fn ( x as ", "pat"}, {"let in ", "exp"}, {"let ", "dec"}, {"let ^open A ", "dec"},
		{"case ", "exp"}, {"case ^a of ", "pat"}, {"case ^a of x => ", "exp"}, {"case ^a of x => y | ", "pat"},
		{"try ", "exp"}, {"try ^a with ", "pat"}, {"try ^a with x => ", "exp"}, {"a + ( ", "exp*"}, {"f ( ", "exp*"}, {"~ ! [ ", "exp*"},
		{"a :: b :: ( ", "exp*"}, {"a := b orelse c andalso d = ( ", "exp*"},
	},
	"pat": {
		{"( ", "pat*"}, {"[ ", "pat*"}, {"( ^a , ", "pat"}, {"[ ^a , ", "pat"}, {"( ^a , b , ", "pat"}, {"( x as ", "pat"}, {"( ^x : ", "type"}, {"( ^_ : ", "type"},
		{"A ( ", "pat*"}, {"A . B [ ", "pat*"}, {"a :: b :: c :: ( ", "pat*"}, {"( ^a :: b :: c , ", "pat"},
	},
	"type": {
		{"( ", "type"}, {"a -> ", "type"}, {"a * ( ", "type"}, {"( ^a , ", "type"}, {"( ^a , b ) t -> ", "type"}, {"'a A . list -> ", "type"},
		{"( ^a , b , ", "type"}, {"( ^a ) list * b * ( ", "type"},
	},
	"local": {
		{"val ", "pat"}, {"val ^x = ", "exp"}, {"fun f x = ", "exp"}, {"fun f x : ", "type"}, {"fun f x : ^int = ", "exp!"},
		{"fun f ( ", "pat*"}, {"fun f x [ ", "pat*"}, {"fun f x = ^1 and g x = ", "exp"}, {"fun f x = ^1 and g x : int = ", "exp!"}, {"exception E of ", "type"},
	},
	"dec": {
		{"type t = ", "type"}, {"data t = A of ", "type"}, {"data 'a t = A | B of ", "type"}, {"data t = A and u = B of ", "type"},
		{"structure A : ", "sig"}, {"structure A :> ", "sig"}, {"structure A = struct ", "dec"}, {"structure A : ^B = struct open C ", "dec"},
	},
	"sig": {
		{"sig val x : ", "type"}, {"sig type t = ", "type"}, {"sig type t type ( 'a ) t = ", "type"}, {"sig data t = A of ", "type"}, {"sig exception E of ", "type"},
		{"sig structure A : ", "sig"},
	},
}

// stepsOf has the ways on from a thing; a declaration of a let has less of them.
func stepsOf(thing string, local bool) []step {
	if thing != "dec" {
		return steps[thing]
	}
	if local {
		return steps["local"]
	}
	return append(append([]step(nil), steps["local"]...), steps["dec"]...)
}

// walk goes on from what is read at depth 1 until something stands at this
// depth: a text, what would be read behind it, and the first thing in it, if
// any, that stands at this depth itself.
func walk(rnd *rand.Rand, thing string, deep int) (text, to string, ahead int) {
	if thing == "program" {
		thing = "dec"
	}
	local := false
	for depth := 1; depth < deep; depth++ {
		ways := stepsOf(thing, local)
		s := ways[rnd.Intn(len(ways))]
		ahead = -1
		if i := strings.Index(s.text, "^"); i >= 0 && depth+1 == deep {
			ahead = len(text) + i
		}
		text += strings.Replace(s.text, "^", "", 1)
		to = s.to
		next := strings.TrimRight(s.to, "!*")
		local = next == "dec" && (local || thing == "exp")
		thing = next
		if strings.HasSuffix(s.to, "!") {
			depth++
		}
	}
	return text, to, ahead
}

// ends has for each thing a text that is it.
var ends = map[string]string{"exp": "a", "pat": "_", "type": "a", "dec": "open A", "sig": "A"}

func TestP2_2Deep(t *testing.T) {
	rnd := rand.New(rand.NewSource(22))
	for range 4000 {
		p := parsers[rnd.Intn(len(parsers))]
		// What would be read last is the first that stands within MaxDepth others.
		text, to, ahead := walk(rnd, p.name, api.MaxDepth+1)
		thing := strings.TrimRight(to, "!*")
		at := len(text)
		switch {
		case at > api.MaxText-20:
		case ahead >= 0:
			p.fails(t, text+ends[thing], api.ErrDeep, ahead)
		case thing == "dec":
			p.fails(t, text+"open A", api.ErrDeep, at)
			p.fails(t, text+"val $", api.ErrDeep, at)
			p.fails(t, text+"signature S = A", api.ErrSyntax, at)
			p.fails(t, text+")", api.ErrSyntax, at)
			p.fails(t, text, api.ErrSyntax, at)
			p.fails(t, text+"$", api.ErrToken, at)
		case strings.HasSuffix(to, "*"):
			p.fails(t, text+"1", api.ErrDeep, at)
			p.fails(t, text+"= $", api.ErrDeep, at)
			p.fails(t, text+"$", api.ErrToken, at)
		default: // it is too deep whatever comes, and this is not looked at
			p.fails(t, text+ends[thing], api.ErrDeep, at)
			p.fails(t, text+"= $", api.ErrDeep, at)
			p.fails(t, text, api.ErrDeep, at)
			p.fails(t, text+"$", api.ErrDeep, at)
		}
	}
}

// One thing less is not too deep: the text then ends too early, and no more.
func TestP2_2NotTooDeep(t *testing.T) {
	rnd := rand.New(rand.NewSource(23))
	for range 4000 {
		p := parsers[rnd.Intn(len(parsers))]
		text, to, ahead := walk(rnd, p.name, api.MaxDepth)
		text += ends[strings.TrimRight(to, "!*")]
		if strings.HasSuffix(to, "!") && ahead >= 0 || len(text) > api.MaxText {
			continue // the body that counts twice goes one too deep
		}
		p.fails(t, text, api.ErrSyntax, len(text))
	}
}

func TestP2_2DeepWholes(t *testing.T) {
	for n, kind := range map[int]api.Errno{api.MaxDepth - 1: api.OK, api.MaxDepth: api.ErrDeep} {
		nests := func(p parser, open, inner, closing string) {
			t.Helper()
			text := strings.Repeat(open, n) + inner + strings.Repeat(closing, n)
			at := 0
			if kind != api.OK {
				at = n * len(open)
			}
			if _, f := p.read(text); f != (api.Fault{Kind: kind, At: at}) {
				t.Errorf("%d times %s: %v", n, open, f)
			}
		}
		nests(exps, "(", "a", ")")
		nests(exps, "[", "a", "]")
		nests(exps, "fn x=>", "a", "")
		nests(exps, "raise ", "a", "")
		nests(pats, "(", "a", ")")
		nests(pats, "(x as ", "a", ")")
		nests(types, "(", "a", ")")
		nests(types, "a->", "a", "")
		nests(programs, "structure A=struct ", "open A ", "end ")
	}
}

// What the grammar repeats without exp, pat, type, dec or sig does not count.
func TestP2_2WhatDoesNotCount(t *testing.T) {
	n := 10 * api.MaxDepth
	exps.fails(t, strings.Repeat("~", api.MaxText-1)+"a", api.OK, 0)
	exps.fails(t, strings.Repeat("a::", n)+"a", api.OK, 0)
	exps.fails(t, strings.Repeat("a+", n)+"a", api.OK, 0)
	exps.fails(t, strings.Repeat("a ", n), api.OK, 0)
	exps.fails(t, strings.Repeat("a orelse ", n/3)+"a", api.OK, 0)
	exps.fails(t, strings.Repeat("A.", n)+"a", api.OK, 0)
	exps.fails(t, "["+strings.Repeat("a,", n)+"a]", api.OK, 0)
	exps.fails(t, "let "+strings.Repeat("open A ", n/2)+"in a end", api.OK, 0)
	pats.fails(t, strings.Repeat("a::", n)+"a", api.OK, 0)
	pats.fails(t, "("+strings.Repeat("a,", n)+"a)", api.OK, 0)
	types.fails(t, "a"+strings.Repeat(" list", n), api.OK, 0)
	types.fails(t, strings.Repeat("a*", n)+"a", api.OK, 0)
	programs.fails(t, strings.Repeat("open A ", n/2), api.OK, 0)
	programs.fails(t, "fun f"+strings.Repeat(" x", n)+"=1", api.OK, 0)
	programs.fails(t, "data t=A"+strings.Repeat("|A", n), api.OK, 0)
	programs.fails(t, "signature S=sig "+strings.Repeat("type t ", n/2)+"end", api.OK, 0)
}

// A chain of a pattern is one reading: each part stands as deep as the first.
func TestP2_2Chains(t *testing.T) {
	open := strings.Repeat("[", api.MaxDepth-1)
	shut := strings.Repeat("]", api.MaxDepth-1)
	pats.fails(t, open+"a::b::c"+shut, api.OK, 0)
	pats.fails(t, open+"a::[b]"+shut, api.ErrDeep, len(open)+4)
	pats.fails(t, open+"[a]::b"+shut, api.ErrDeep, len(open)+1)
	pats.fails(t, open+"A ()::[]"+shut, api.OK, 0)
}

// At the bracket it is the second token that tells a pattern from a name of `as`.
func TestP2_2DeepNames(t *testing.T) {
	open := strings.Repeat("[", api.MaxDepth-1) + "("
	at := len(open)
	pats.fails(t, open+"x as y", api.ErrDeep, at+5)
	pats.fails(t, open+"x as $", api.ErrDeep, at+5)
	pats.fails(t, open+"x, y", api.ErrDeep, at)
	pats.fails(t, open+"x", api.ErrDeep, at)
	pats.fails(t, open+"x $", api.ErrToken, at+2)
	pats.fails(t, open+"X $", api.ErrDeep, at)
	pats.fails(t, open+")", api.ErrSyntax, at+1)
}

// An annotated body counts twice, and its type as it stands.
func TestP2_2AnnotatedBodies(t *testing.T) {
	open := strings.Repeat("structure A=struct ", api.MaxDepth-2)
	at := len(open)
	programs.fails(t, open+"fun f x=a", api.ErrSyntax, at+9)
	programs.fails(t, open+"fun f x=[a", api.ErrDeep, at+9)
	programs.fails(t, open+"fun f x:int=a", api.ErrDeep, at+12)
	programs.fails(t, open+"fun f x:int=", api.ErrDeep, at+12)
	programs.fails(t, open+"fun f x:a=", api.ErrDeep, at+10)
	programs.fails(t, open+"fun f x:a->a=", api.ErrDeep, at+11)
	open = open[:len(open)-len("structure A=struct ")]
	at = len(open)
	programs.fails(t, open+"fun f x:int=a", api.ErrSyntax, at+13)
	programs.fails(t, open+"fun f x:int=[a", api.ErrDeep, at+13)
}
