package syntax

import (
	"math"
	"math/rand"
	"strconv"
	"strings"
	"testing"

	"mlcore/api"
	"mlcore/lexer"
)

func TestP2_3Tokens(t *testing.T) {
	exps.prints(t, "A.B.c", "A . B . c")
	exps.prints(t, "A.B", "A . B")
	exps.prints(t, "true", "true")
	exps.prints(t, `"a.b\n\007"`, `"a.b\n\007"`)
	exps.prints(t, "()", "( )")
	exps.prints(t, "(a,b)", "( a , b )")
	exps.prints(t, "(a;b;c)", "( a ; b ; c )")
	exps.prints(t, "(a:int)", "( a : int )")
	exps.prints(t, "[]", "[ ]")
	exps.prints(t, "[a,b]", "[ a , b ]")
	exps.prints(t, "~3", "~ 3")
	exps.prints(t, "fn x=>(fn y=>y)", "fn x => fn y => y")
	exps.prints(t, "if(a)then(b)else(c)", "if a then b else c")
	exps.prints(t, "let(**)in(a)end", "let in a end")
	exps.prints(t, "let val x=1 open A in(a)end", "let val x = 1 open A in a end")
	exps.prints(t, "case a of x=>1|y=>2 end", "case a of x => 1 | y => 2 end")
	exps.prints(t, "try a with x=>1|y=>2 end", "try a with x => 1 | y => 2 end")
	pats.prints(t, "~3", "~ 3")
	pats.prints(t, "(x as(y))", "( x as y )")
	pats.prints(t, "(x:A.t)", "( x : A . t )")
	pats.prints(t, "[_,()]", "[ _ , ( ) ]")
	pats.prints(t, `("",A.B)`, `( "" , A . B )`)
	programs.prints(t, "", "")
	programs.prints(t, "val x=1 val y=2", "val x = 1 val y = 2")
	programs.prints(t, "fun f x(A y):int=x and g z=z", "fun f x ( A y ) = ( x : int ) and g z = z")
	programs.prints(t, "fun f x:int=(x:int)", "fun f x = ( ( x : int ) : int )")
	programs.prints(t, "type t=int type('a)t='a type('a,'b)t=int", "type t = int type 'a t = 'a type ( 'a , 'b ) t = int")
	programs.prints(t, "data t=A and('a)u=B of 'a|C", "data t = A and 'a u = B of 'a | C")
	programs.prints(t, "data('a,'b)t=A of int->int", "data ( 'a , 'b ) t = A of int -> int")
	programs.prints(t, "exception E exception F of int*int", "exception E exception F of int * int")
	programs.prints(t, "structure A=struct end structure B:A=C.D structure E:>F=A", "structure A = struct end structure B : A = C . D structure E :> F = A")
	programs.prints(t, "structure A=struct open B.C val x=1 end", "structure A = struct open B . C val x = 1 end")
	programs.prints(t, "signature S=sig val x:int type t type 'a u='a data t=A exception E of t structure T:U end",
		"signature S = sig val x : int type t type 'a u = 'a data t = A exception E of t structure T : U end")
	programs.prints(t, "signature S=sig type('a,'b)t type('a,'b)u=int end signature T=S",
		"signature S = sig type ( 'a , 'b ) t type ( 'a , 'b ) u = int end signature T = S")
}

// The levels of the chapter, and what they ask of their kids. A number below 0: there is no such kid.
var printed = []struct {
	text              string // with l and r where its kids stand
	level, left, rite int
}{
	{"fn x => r", 0, -1, 0}, {"if a then b else r", 0, -1, 0}, {"raise r", 0, -1, 0},
	{"if l then r else a", 0, 0, 0},
	{"l := r", 1, 2, 2}, {"l orelse r", 2, 2, 3}, {"l andalso r", 3, 3, 4},
	{"l = r", 4, 5, 5}, {"l <> r", 4, 5, 5}, {"l < r", 4, 5, 5}, {"l <= r", 4, 5, 5}, {"l > r", 4, 5, 5}, {"l >= r", 4, 5, 5},
	{"l :: r", 5, 6, 5}, {"l + r", 6, 6, 7}, {"l - r", 6, 6, 7}, {"l ^ r", 6, 6, 7},
	{"l * r", 7, 7, 8}, {"l / r", 7, 7, 8}, {"l % r", 7, 7, 8},
	{"l r", 8, 8, 9}, {"~ r", 9, -1, 9}, {"! r", 9, -1, 9},
	{"( l , r )", 10, 0, 0}, {"( l ; r )", 10, 0, 0}, {"[ l , r ]", 10, 0, 0}, {"( r : int )", 10, -1, 0},
	{"let val x = l in r end", 10, 0, 0}, {"case l of x => r end", 10, 0, 0}, {"try l with x => r end", 10, 0, 0},
	{"case a of x => l | y => r end", 10, 0, 0},
}

// bracketed writes a kid with the brackets that the chapter asks for.
func bracketed(kid string, level, asked int) string {
	if level < asked {
		return "( " + kid + " )"
	}
	return kid
}

func fill(text, left, right string) string {
	words := strings.Fields(text)
	for i, w := range words {
		switch w {
		case "l":
			words[i] = left
		case "r":
			words[i] = right
		}
	}
	return strings.Join(words, " ")
}

// Each expression as each kid of each other: its brackets stand by the levels alone.
func TestP2_3ExpressionLevels(t *testing.T) {
	for _, outer := range printed {
		for _, inner := range printed {
			kid := fill(inner.text, "p", "q")
			exps.prints(t, fill(outer.text, "("+kid+")", "z"), fill(outer.text, bracketed(kid, inner.level, outer.left), "z"))
			exps.prints(t, fill(outer.text, "z", "("+kid+")"), fill(outer.text, "z", bracketed(kid, inner.level, outer.rite)))
		}
	}
}

func TestP2_3PatternLevels(t *testing.T) {
	kids := []struct {
		text  string
		level int
	}{{"a :: b", 0}, {"A b", 1}, {"A", 2}, {"true", 2}, {"x", 2}, {"_", 2}, {"7", 2}, {"~ 7", 2}, {`"s"`, 2}, {"( )", 2}, {"( a , b )", 2},
		{"[ ]", 2}, {"[ a ]", 2}, {"( x as y )", 2}, {"( x : t )", 2}}
	for _, k := range kids {
		in := "(" + k.text + ")"
		pats.prints(t, in, k.text)
		pats.prints(t, in+" :: z", bracketed(k.text, k.level, 1)+" :: z")
		pats.prints(t, "z :: "+in, "z :: "+k.text)
		pats.prints(t, "B "+in, "B "+bracketed(k.text, k.level, 2))
		pats.prints(t, "("+in+", "+in+")", "( "+k.text+" , "+k.text+" )")
		pats.prints(t, "["+in+"]", "[ "+k.text+" ]")
		pats.prints(t, "(z as "+in+")", "( z as "+k.text+" )")
		pats.prints(t, "("+in+": t)", "( "+k.text+" : t )")
		exps.prints(t, "fn "+in+" => z", "fn "+bracketed(k.text, k.level, 2)+" => z")
		exps.prints(t, "case z of "+in+" => z end", "case z of "+k.text+" => z end")
		programs.prints(t, "fun f "+in+" "+in+" = z", "fun f "+bracketed(k.text, k.level, 2)+" "+bracketed(k.text, k.level, 2)+" = z")
		programs.prints(t, "val "+in+" = z", "val "+k.text+" = z")
	}
}

func TestP2_3TypeLevels(t *testing.T) {
	types.prints(t, "((int -> int) list * int)", "( int -> int ) list * int")
	kids := []struct {
		text  string
		level int
	}{{"a -> b", 0}, {"a * b", 1}, {"a * b * c", 1}, {"'a", 2}, {"A . t", 2}, {"int list", 2}, {"( a , b ) m", 2}, {"( a -> b , c ) m", 2}}
	for _, k := range kids {
		in := "(" + k.text + ")"
		types.prints(t, in, k.text)
		types.prints(t, in+" -> z", bracketed(k.text, k.level, 1)+" -> z")
		types.prints(t, "z -> "+in, "z -> "+k.text)
		types.prints(t, in+" * "+in+" * z", bracketed(k.text, k.level, 2)+" * "+bracketed(k.text, k.level, 2)+" * z")
		types.prints(t, in+" list A.t", bracketed(k.text, k.level, 2)+" list A . t")
		types.prints(t, "("+in+", "+in+") m", "( "+k.text+" , "+k.text+" ) m")
		exps.prints(t, "(z : "+in+")", "( z : "+k.text+" )")
		programs.prints(t, "exception E of "+in, "exception E of "+k.text)
		programs.prints(t, "fun f x : "+in+" = z", "fun f x = ( z : "+k.text+" )")
		programs.prints(t, "signature S = sig val x : "+in+" end", "signature S = sig val x : "+k.text+" end")
	}
}

// written is a token as Print has it.
func written(t api.Token) string {
	switch t.Kind {
	case api.TokInt:
		return strconv.Itoa(t.N)
	case api.TokStr:
		return lexer.Quote(t.Text)
	}
	return t.Text
}

func tokensOf(text string) []string {
	list, _ := lexer.Tokens(text)
	var out []string
	for _, t := range list[:len(list)-1] {
		out = append(out, written(t))
	}
	return out
}

func TestP2_4ReadAgain(t *testing.T) {
	eachDerived(t, 6000, func(p parser, text string, n api.Node) {
		out := Print(n)
		if len(out) > api.MaxText {
			return
		}
		if again := strings.Join(tokensOf(out), " "); again != out {
			t.Fatalf("%s %q: not one blank between each two tokens: %q", p.name, text, out)
		}
		m, f := p.read(out)
		if f != (api.Fault{}) || shape(m) != shape(n) {
			t.Fatalf("%s %q\nprinted %q: %v\n got %s\nwant %s", p.name, text, out, f, shape(m), shape(n))
		}
		if twice := Print(m); twice != out {
			t.Fatalf("%s %q: printed %q, then %q", p.name, text, out, twice)
		}
	})
}

// Without one of its pairs of round brackets a printed text says something else, or nothing.
func TestP2_3NoBracketIsIdle(t *testing.T) {
	eachDerived(t, 1200, func(p parser, text string, n api.Node) {
		tokens := tokensOf(Print(n))
		want := shape(n)
		var open []int
		for i, token := range tokens {
			switch token {
			case "(":
				open = append(open, i)
			case ")":
				begin := open[len(open)-1]
				open = open[:len(open)-1]
				less := append(append(append([]string(nil), tokens[:begin]...), tokens[begin+1:i]...), tokens[i+1:]...)
				m, f := p.read(strings.Join(less, " "))
				if f.Kind == api.OK && shape(m) == want {
					t.Fatalf("%s %q: the brackets at token %d are idle: %q", p.name, text, begin, strings.Join(tokens, " "))
				}
			}
		}
	})
}

// A type behind a function's parameters stands one deeper when it is printed, and so may be too deep then.
func TestP2_4DeepTypes(t *testing.T) {
	arrows := strings.Repeat("a->", api.MaxDepth-2) + "a"
	n, f := Parse("fun f x:" + arrows + "=x")
	if f.Kind != api.OK {
		t.Fatal(f)
	}
	programs.fails(t, Print(n), api.ErrDeep, len("fun f x = ( x : ")+5*(api.MaxDepth-2))
	n, _ = Parse("fun f x:" + arrows[3:] + "=x")
	programs.fails(t, Print(n), api.OK, 0)
}

// Trees as deep as a text of MaxText bytes has them are written whole.
func TestP2_3LongTexts(t *testing.T) {
	half := api.MaxText/2 - 1
	exps.prints(t, strings.Repeat("~", api.MaxText-1)+"a", strings.Repeat("~ ", api.MaxText-1)+"a")
	exps.prints(t, strings.Repeat("a+", half)+"a", strings.Repeat("a + ", half)+"a")
	exps.prints(t, strings.Repeat("a ", half)+"a", strings.Repeat("a ", half)+"a")
	exps.prints(t, strings.Repeat("()", half), strings.TrimSpace(strings.Repeat("( ) ", half)))
	exps.prints(t, strings.Repeat("[]", half), strings.TrimSpace(strings.Repeat("[ ] ", half)))
	third := api.MaxText/3 - 1
	pats.prints(t, strings.Repeat("_::", third)+"_", strings.Repeat("_ :: ", third)+"_")
	programs.prints(t, "data t=A"+strings.Repeat("|A", half-10), "data t = A"+strings.Repeat(" | A", half-10))
	programs.prints(t, "fun f x=1"+strings.Repeat("and f x=1", 400), "fun f x = 1"+strings.Repeat(" and f x = 1", 400))
}

// Other trees give any text; but Print ends, and does not panic.
func TestP2_3OtherTrees(t *testing.T) {
	for kind := -2; kind < len(kindNames)+2; kind++ {
		for kids := range 4 {
			for _, number := range []int{0, 1, 2, 3, -1, math.MinInt, math.MaxInt} {
				for inner := range len(kindNames) {
					n := api.Node{Kind: kind, N: number, Name: ".x"}
					for range kids {
						n.Kids = append(n.Kids, api.Node{Kind: inner, N: number})
					}
					Print(n)
				}
			}
		}
	}
	rnd := rand.New(rand.NewSource(4))
	for range 2000 {
		Print(randomTree(rnd, 5))
	}
}

func randomTree(rnd *rand.Rand, deep int) api.Node {
	n := api.Node{Kind: rnd.Intn(len(kindNames)), N: rnd.Intn(4), Name: []string{"", "x", "+", "::", "A.b"}[rnd.Intn(5)]}
	for range rnd.Intn(4) * min(deep, 1) {
		n.Kids = append(n.Kids, randomTree(rnd, deep-1))
	}
	return n
}

// A list that holds itself, and one in which the same lists stand over and over.
func TestP2_3EndlessTrees(t *testing.T) {
	for kind := range kindNames {
		loop := make([]api.Node, 2)
		for i := range loop {
			loop[i] = api.Node{Kind: kind, Name: "+", N: 2, Kids: loop}
		}
		Print(loop[0])
		wide := make([]api.Node, 100000)
		for i := range wide {
			wide[i] = api.Node{Kind: kind, N: len(wide), Kids: wide}
		}
		Print(wide[0])
		n := api.Node{Kind: kind}
		for range 200 {
			n = api.Node{Kind: kind, N: 2, Kids: []api.Node{n, n, n}}
		}
		Print(n)
	}
}

func TestP2_3TreeIsOnlyRead(t *testing.T) {
	n, _ := Parse("fun f (x :: y) : int = (x + 1) * 2 data ('a, 'b) t = A of ('a -> 'b) list structure A :> S = B.C")
	before := show(n)
	Print(n)
	if after := show(n); after != before {
		t.Errorf("before %s\nafter %s", before, after)
	}
}
