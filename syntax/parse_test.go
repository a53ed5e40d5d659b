package syntax

import (
	"strconv"
	"strings"
	"testing"

	"mlcore/api"
)

func TestP2_1Atoms(t *testing.T) {
	exps.reads(t, "12", "EInt@0#12")
	exps.reads(t, " 0", "EInt@1")
	exps.reads(t, `"a\nb"`, "EStr@0:a\nb")
	exps.reads(t, `""`, "EStr@0")
	exps.reads(t, "x'", "EVar@0:x'")
	exps.reads(t, "true", "ECon@0:true")
	exps.reads(t, "false", "ECon@0:false")
	exps.reads(t, "Nil", "ECon@0:Nil")
	exps.reads(t, "(* c *) x", "EVar@8:x")
}

func TestP2_1Paths(t *testing.T) {
	exps.reads(t, "A . B(**). c", "EVar@0:A.B.c")
	exps.reads(t, "A.B.C", "ECon@0:A.B.C")
	exps.reads(t, "f A.b", "EApp@0(EVar@0:f EVar@2:A.b)")
	pats.reads(t, " A . B", "PCon@1:A.B")
	types.reads(t, "A. B .t", "YCon@0:A.B.t")
	programs.reads(t, "open A .B", "Prog@0(DOpen@0:A.B)")
	programs.reads(t, "structure S = A. B.C", "Prog@0(DStruct@0:S(SPath@14:A.B.C))")
	exps.stops(t, "A.?", "A.?true", "A.?1", "A.b?.c", "true?.x", "A.B.?(x)")
	pats.stops(t, "A.?b", "A.?", "x?.y", "A.B.?c")
	types.stops(t, "A?", "A?->int", "A.B?", "A.?->int", "a?.b", "int A?", "int A.?'a")
	programs.stops(t, "open ?a", "open A.?b", "open A.?", "open ?", "structure S = A.?b", "open A ?B")
}

func TestP2_1Brackets(t *testing.T) {
	exps.reads(t, "()", "ETuple@0")
	exps.reads(t, "( )", "ETuple@0")
	exps.reads(t, "(x)", "EVar@1:x")
	exps.reads(t, "((x))", "EVar@2:x")
	exps.reads(t, "(a, b)", "ETuple@0(EVar@1:a EVar@4:b)")
	exps.reads(t, "(a, b, (c))", "ETuple@0(EVar@1:a EVar@4:b EVar@8:c)")
	exps.reads(t, "(a; b)", "ESeq@0(EVar@1:a EVar@4:b)")
	exps.reads(t, "(a; b; c)", "ESeq@0(EVar@1:a EVar@4:b EVar@7:c)")
	exps.reads(t, "(a : t)", "EHas@0(EVar@1:a YCon@5:t)")
	exps.reads(t, "((a : t))", "EHas@1(EVar@2:a YCon@6:t)")
	exps.reads(t, "(((a), b))", "ETuple@1(EVar@3:a EVar@7:b)")
	exps.stops(t, "(?", "(a?", "(a,?)", "(a;?)", "(a:?)", "(a, b?; c)", "(a; b?, c)", "(a, b?: t)", "(a : t?: t)",
		"(a : t?, b)", "(a b?]", "(?,a)", "a?)")
}

func TestP2_1Lists(t *testing.T) {
	exps.reads(t, "[]", "EList@0")
	exps.reads(t, "[a]", "EList@0(EVar@1:a)")
	exps.reads(t, "[a, (b), []]", "EList@0(EVar@1:a EVar@5:b EList@9)")
	exps.stops(t, "[?", "[a?", "[a,?]", "[a?;b]", "[a?)", "[?,]", "[a?:t]")
	pats.reads(t, "[]", "PList@0")
	pats.reads(t, "[a, 1 :: x]", "PList@0(PVar@1:a PCons@4(PInt@4#1 PVar@9:x))")
	pats.stops(t, "[?", "[a?", "[a,?]", "[?,]", "[a?:t]")
}

func TestP2_1LeftOperators(t *testing.T) {
	for _, op := range []string{"+", "-", "^", "*", "/", "%"} {
		exps.reads(t, "a "+op+" b "+op+" c",
			"EOp@0:"+op+"(EOp@0:"+op+"(EVar@0:a EVar@4:b) EVar@8:c)")
	}
	exps.reads(t, "a + b - c ^ d", "EOp@0:^(EOp@0:-(EOp@0:+(EVar@0:a EVar@4:b) EVar@8:c) EVar@12:d)")
	exps.reads(t, "a * b / c % d", "EOp@0:%(EOp@0:/(EOp@0:*(EVar@0:a EVar@4:b) EVar@8:c) EVar@12:d)")
	exps.reads(t, "a orelse b orelse c", "EOr@0(EOr@0(EVar@0:a EVar@9:b) EVar@18:c)")
	exps.reads(t, "a andalso b andalso c", "EAnd@0(EAnd@0(EVar@0:a EVar@10:b) EVar@20:c)")
}

func TestP2_1RightOperators(t *testing.T) {
	exps.reads(t, "a :: b :: c", "EOp@0:::(EVar@0:a EOp@5:::(EVar@5:b EVar@10:c))")
	exps.reads(t, "(a :: b) :: c", "EOp@1:::(EOp@1:::(EVar@1:a EVar@6:b) EVar@12:c)")
}

func TestP2_1OperatorsThatDoNotGoOn(t *testing.T) {
	for _, op := range []string{"=", "<>", "<", "<=", ">", ">="} {
		exps.reads(t, "a "+op+" b", "EOp@0:"+op+"(EVar@0:a EVar@"+strconv.Itoa(3+len(op))+":b)")
		exps.stops(t, "a "+op+" b ?= c", "a "+op+" b ?< c", "a = b ?"+op+" c", "a orelse b "+op+" c ?"+op+" d",
			"a := b "+op+" c ?"+op+" d")
	}
	exps.reads(t, "a := b", "EOp@0::=(EVar@0:a EVar@5:b)")
	exps.stops(t, "a := b ?:= c", "a = b := c = d ?:= e")
}

// Each operator holds more strongly than all of the levels above it in this list.
func TestP2_1Levels(t *testing.T) {
	levels := [][]string{{":="}, {"orelse"}, {"andalso"}, {"=", "<>", "<", "<=", ">", ">="}, {"::"}, {"+", "-", "^"}, {"*", "/", "%"}}
	for i, weak := range levels {
		for _, strong := range levels[i+1:] {
			for _, w := range weak {
				for _, s := range strong {
					sameShape(t, "a "+w+" b "+s+" c", "a "+w+" (b "+s+" c)")
					sameShape(t, "a "+s+" b "+w+" c", "(a "+s+" b) "+w+" c")
				}
			}
		}
	}
	sameShape(t, "f x * g y", "(f x) * (g y)")
	sameShape(t, "~ f x", "(~ f) x")
	sameShape(t, "f ~ x", "f (~ x)")
	sameShape(t, "! ~ ! x", "! (~ (! x))")
	sameShape(t, "a - ~ b", "a - (~ b)")
}

func sameShape(t *testing.T, a, b string) {
	t.Helper()
	n, f := ParseExp(a)
	m, g := ParseExp(b)
	if f.Kind != api.OK || g.Kind != api.OK || shape(n) != shape(m) {
		t.Errorf("%s: %s %v\n%s: %s %v", a, shape(n), f, b, shape(m), g)
	}
}

func TestP2_1Applications(t *testing.T) {
	exps.reads(t, "f x (g y)", "EApp@0(EApp@0(EVar@0:f EVar@2:x) EApp@5(EVar@5:g EVar@7:y))")
	exps.reads(t, "(f) x", "EApp@1(EVar@1:f EVar@4:x)")
	exps.reads(t, "~ 3", "EOp@0:~(EInt@2#3)")
	exps.reads(t, "!r", "EOp@0:!(EVar@1:r)")
	exps.reads(t, "(~a) b", "EApp@1(EOp@1:~(EVar@2:a) EVar@5:b)")
	exps.reads(t, "f let in x end case y of z => 1 end",
		"EApp@0(EApp@0(EVar@0:f ELet@2(EVar@9:x)) ECase@15(EVar@20:y Rule@25(PVar@25:z EInt@30#1)))")
	exps.reads(t, `A "s" [] () true 1 try a with b => c end`,
		"EApp@0(EApp@0(EApp@0(EApp@0(EApp@0(EApp@0(ECon@0:A EStr@2:s) EList@6) ETuple@9) ECon@12:true) EInt@17#1) "+
			"ETry@19(EVar@23:a Rule@30(PVar@30:b EVar@35:c)))")
	exps.stops(t, "f ?fn x => x", "f ?if a then b else c", "f ?raise x", "1 + ?raise x", "~ ?fn x => x", "~?", "a +?",
		"?+ a", "a * ?* b", "! ?= a", "f ?_", "f ?'a", "a := ?if b then c else d", "a orelse ?fn x => x")
}

func TestP2_1OpenExpressions(t *testing.T) {
	exps.reads(t, "fn x => x + 1", "EFn@0(PVar@3:x EOp@8:+(EVar@8:x EInt@12#1))")
	exps.reads(t, "fn A.B => fn _ => 1", "EFn@0(PCon@3:A.B EFn@10(PAny@13 EInt@18#1))")
	exps.reads(t, "if a then b else c := d", "EIf@0(EVar@3:a EVar@10:b EOp@17::=(EVar@17:c EVar@22:d))")
	exps.reads(t, "raise A b", "ERaise@0(EApp@6(ECon@6:A EVar@8:b))")
	exps.reads(t, "raise raise x", "ERaise@0(ERaise@6(EVar@12:x))")
	exps.stops(t, "fn ?=> x", "fn A ?b => x", "fn x ?y => x", "fn x ?= x", "fn x ?:: y => x", "if a ?else b", "if a then b?",
		"if a then b ?in c", "raise?", "fn x =>?", "fn a?")
}

func TestP2_1LetCaseTry(t *testing.T) {
	exps.reads(t, "let in x end", "ELet@0(EVar@7:x)")
	exps.reads(t, "let val a = 1 open S in a end",
		"ELet@0#2(DVal@4(PVar@8:a EInt@12#1) DOpen@14:S EVar@24:a)")
	exps.reads(t, "let fun f x = x exception E of int in f end",
		"ELet@0#2(DFun@4(FBind@8:f(PVar@10:x EVar@14:x)) DExn@16:E(YCon@31:int) EVar@38:f)")
	exps.reads(t, "case a of (x) => 1 | (y) :: z => 2 end",
		"ECase@0(EVar@5:a Rule@11(PVar@11:x EInt@17#1) Rule@22(PCons@22(PVar@22:y PVar@28:z) EInt@33#2))")
	exps.reads(t, "try a with E => 1 | _ => 2 end",
		"ETry@0(EVar@4:a Rule@11(PCon@11:E EInt@16#1) Rule@20(PAny@20 EInt@25#2))")
	exps.reads(t, "case a of x => fn y => y | z => z end",
		"ECase@0(EVar@5:a Rule@10(PVar@10:x EFn@15(PVar@18:y EVar@23:y)) Rule@27(PVar@27:z EVar@32:z))")
	exps.stops(t, "let ?type t = int in x end", "let ?data t = A in x end", "let ?structure S = A in x end",
		"let ?signature S = A in x end", "let val a = 1 ?end", "let in x ?; y end", "let in ?end", "let ?x in x end",
		"case a of ?end", "case a ?with x => y end", "case a of x => y ?", "case a of x => y | ?end", "case a of ?| x => y end",
		"try a ?of x => y end", "case a of x ?= y end", "case a of x?|y=>1 end", "case a of true ?x => 1 end")
}

func TestP2_1Patterns(t *testing.T) {
	pats.reads(t, "_", "PAny@0")
	pats.reads(t, "x", "PVar@0:x")
	pats.reads(t, "7", "PInt@0#7")
	pats.reads(t, "~ 3", "PInt@0#-3")
	pats.reads(t, "~1000000000", "PInt@0#-1000000000")
	pats.reads(t, "~0", "PInt@0")
	pats.reads(t, `"s"`, "PStr@0:s")
	pats.reads(t, "true", "PCon@0:true")
	pats.reads(t, "A.B x", "PCon@0:A.B(PVar@4:x)")
	pats.reads(t, "A B", "PCon@0:A(PCon@2:B)")
	pats.reads(t, "A ~1", "PCon@0:A(PInt@2#-1)")
	pats.reads(t, "A (B x)", "PCon@0:A(PCon@3:B(PVar@5:x))")
	pats.reads(t, "A []", "PCon@0:A(PList@2)")
	pats.reads(t, "A true", "PCon@0:A(PCon@2:true)")
	pats.reads(t, "()", "PTuple@0")
	pats.reads(t, "(x)", "PVar@1:x")
	pats.reads(t, "(x, _)", "PTuple@0(PVar@1:x PAny@4)")
	pats.reads(t, "(x as y)", "PAs@0:x(PVar@6:y)")
	pats.reads(t, "(x as y :: z)", "PAs@0:x(PCons@6(PVar@6:y PVar@11:z))")
	pats.reads(t, "((x as y))", "PAs@1:x(PVar@7:y)")
	pats.reads(t, "(x : int)", "PHas@0(PVar@1:x YCon@5:int)")
	pats.reads(t, "((x) : int)", "PHas@0(PVar@2:x YCon@7:int)")
	pats.reads(t, "(A) :: b :: c", "PCons@1(PCon@1:A PCons@7(PVar@7:b PVar@12:c))")
	pats.reads(t, "(a :: b) :: c", "PCons@1(PCons@1(PVar@1:a PVar@6:b) PVar@12:c)")
	pats.reads(t, "A x :: B y", "PCons@0(PCon@0:A(PVar@2:x) PCon@7:B(PVar@9:y))")
	pats.stops(t, "?", "~?", "~ ?x", "~ ?~ 3", "x ?y", "true ?x", "false ?(x)", "(A) ?x", "A x ?y", "A ~ ?B", "(?", "(x?",
		"(x,?)", "(x as y?: t)", "(x as y?, z)", "((x) ?as y)", "(A ?as y)", "(x :: y ?as z)", "(x :?)", "(x : t?, y)", "(x as?)",
		"(x, y ?as z)", "x :: ?:: y", "x ::?", "?:: x", "(x, y?: t)", "x?: t", "?fn", "?!x", "1 ?2", "_ ?_", "(_ ?as x)")
}

func TestP2_1Types(t *testing.T) {
	types.reads(t, "''a", "YVar@0:''a")
	types.reads(t, "int", "YCon@0:int")
	types.reads(t, "'a list ref", "YCon@0:ref(YCon@0:list(YVar@0:'a))")
	types.reads(t, "(int) list", "YCon@0:list(YCon@1:int)")
	types.reads(t, "((int)) list", "YCon@0:list(YCon@2:int)")
	types.reads(t, "((int) list) ref", "YCon@0:ref(YCon@1:list(YCon@2:int))")
	types.reads(t, "(int -> 'a) list", "YCon@0:list(YArrow@1(YCon@1:int YVar@8:'a))")
	types.reads(t, "('a, int) A.m", "YCon@0:A.m(YVar@1:'a YCon@5:int)")
	types.reads(t, "(a, b, c) t A.u", "YCon@0:A.u(YCon@0:t(YCon@1:a YCon@4:b YCon@7:c))")
	types.reads(t, "((a, b) t)", "YCon@1:t(YCon@2:a YCon@5:b)")
	types.reads(t, "a * b * c", "YTuple@0(YCon@0:a YCon@4:b YCon@8:c)")
	types.reads(t, "(a * b) * c", "YTuple@1(YTuple@1(YCon@1:a YCon@5:b) YCon@10:c)")
	types.reads(t, "(a) * b", "YTuple@1(YCon@1:a YCon@6:b)")
	types.reads(t, "(a) list * b", "YTuple@0(YCon@0:list(YCon@1:a) YCon@11:b)")
	types.reads(t, "a -> b -> c", "YArrow@0(YCon@0:a YArrow@5(YCon@5:b YCon@10:c))")
	types.reads(t, "(a -> b) -> c", "YArrow@1(YArrow@1(YCon@1:a YCon@6:b) YCon@12:c)")
	types.reads(t, "a * b -> c * d", "YArrow@0(YTuple@0(YCon@0:a YCon@4:b) YTuple@9(YCon@9:c YCon@13:d))")
	types.reads(t, "a b -> c", "YArrow@0(YCon@0:b(YCon@0:a) YCon@7:c)")
	types.stops(t, "?", "(?)", "(a, b)?", "(a, b) ?* c", "(a, b) ?'c", "(a,?) t", "(a?", "a ->?", "a *?", "a ?'b", "a ?(b)",
		"?1", "?_", "?fn", "a * ?-> b", "(a, b) ?(c)", "a ?, b", "?-> a", "(a ?; b)")
}

func TestP2_1ValAndFun(t *testing.T) {
	programs.reads(t, "", "Prog@0")
	programs.reads(t, " (* nothing *) ", "Prog@0")
	programs.reads(t, " val x = 1", "Prog@0(DVal@1(PVar@5:x EInt@9#1))")
	programs.reads(t, "val (x, A y) = e val _ = f",
		"Prog@0(DVal@0(PTuple@4(PVar@5:x PCon@8:A(PVar@10:y)) EVar@15:e) DVal@17(PAny@21 EVar@25:f))")
	programs.reads(t, "val a = b = c", "Prog@0(DVal@0(PVar@4:a EOp@8:=(EVar@8:b EVar@12:c)))")
	programs.reads(t, "fun f A x (B y) = 1 and g _ = 2",
		"Prog@0(DFun@0(FBind@4:f(PCon@6:A PVar@8:x PCon@11:B(PVar@13:y) EInt@18#1) FBind@24:g(PAny@26 EInt@30#2)))")
	programs.reads(t, "fun f x : int -> int = (y)",
		"Prog@0(DFun@0(FBind@4:f(PVar@6:x EHas@24(EVar@24:y YArrow@10(YCon@10:int YCon@17:int)))))")
	programs.reads(t, "fun f x = (y : int)", "Prog@0(DFun@0(FBind@4:f(PVar@6:x EHas@10(EVar@11:y YCon@15:int))))")
	programs.reads(t, "fun f x : int = (y : int)",
		"Prog@0(DFun@0(FBind@4:f(PVar@6:x EHas@16(EHas@16(EVar@17:y YCon@21:int) YCon@10:int))))")
	programs.stops(t, "?x", "val?", "val ?= 1", "val x?", "val x ?: int = 1", "val x =?", "val x = 1 ?, 2", "val x = 1 ?)",
		"val x = 1 ?; val y = 2", "fun ?F x = 1", "fun f ?= 1", "fun f x?", "fun f x ?and g y = 1", "fun f x ?:: y = 1",
		"fun f x ?:= 1", "fun f x : ?= 1", "fun f x : int?", "fun f x = 1 and?", "fun ?(f) x = 1", "fun f x = 1 ?| f y = 2", "val x = 1 ?end",
		"?and f x = 1", "val x = ?val y = 1", "?in", "?1")
}

func TestP2_1TypeAndData(t *testing.T) {
	programs.reads(t, "type t = int", "Prog@0(DType@0:t(YCon@9:int))")
	programs.reads(t, "type 'a t = 'a", "Prog@0(DType@0:t#1(YVar@5:'a YVar@12:'a))")
	programs.reads(t, "type ('a) t = int", "Prog@0(DType@0:t#1(YVar@6:'a YCon@14:int))")
	programs.reads(t, "type ('a, ''b) t = int", "Prog@0(DType@0:t#2(YVar@6:'a YVar@10:''b YCon@19:int))")
	programs.reads(t, "data t = A", "Prog@0(DData@0(DBind@5:t(Con@9:A)))")
	programs.reads(t, "data 'a t = A of 'a * int | B and ('b) u = C",
		"Prog@0(DData@0(DBind@5:t#1(YVar@5:'a Con@12:A(YTuple@17(YVar@17:'a YCon@22:int)) Con@28:B) "+
			"DBind@34:u#1(YVar@35:'b Con@43:C)))")
	programs.reads(t, "data ('a,'b) t = A of int", "Prog@0(DData@0(DBind@5:t#2(YVar@6:'a YVar@9:'b Con@17:A(YCon@22:int))))")
	programs.reads(t, "exception E", "Prog@0(DExn@0:E)")
	programs.reads(t, "exception E of int -> int", "Prog@0(DExn@0:E(YArrow@15(YCon@15:int YCon@22:int)))")
	programs.stops(t, "type ?T = int", "type t?", "type t ?of int", "type (?) t = int", "type ('a,?) t = int",
		"type ('a ?t", "type ('a)?", "type 'a ?'b t = int", "type (?t) u = int", "type t =?", "data t =?", "data t = ?a", "data t = A of?",
		"data t = A ?B", "data t = A |?", "data t = A and?", "data t = A of int ?of int", "data ?= A", "exception ?e", "exception E ?= F",
		"exception E of?", "type 'a?", "data t = A ?. B", "exception A?.B")
}

func TestP2_1Structures(t *testing.T) {
	programs.reads(t, "structure S = struct end", "Prog@0(DStruct@0:S(SBody@14))")
	programs.reads(t, "structure S : T = A", "Prog@0(DStruct@0:S#1(GName@14:T SPath@18:A))")
	programs.reads(t, "structure S :> sig end = struct val x = 1 type t = int end",
		"Prog@0(DStruct@0:S#2(GBody@15 SBody@25(DVal@32(PVar@36:x EInt@40#1) DType@42:t(YCon@51:int))))")
	programs.reads(t, "structure S = struct structure T = struct open U exception E data d = D fun f x = x end end",
		"Prog@0(DStruct@0:S(SBody@14(DStruct@21:T(SBody@35(DOpen@42:U DExn@49:E "+
			"DData@61(DBind@66:d(Con@70:D)) DFun@72(FBind@76:f(PVar@78:x EVar@82:x)))))))")
	programs.reads(t, "signature S = T", "Prog@0(DSig@0:S(GName@14:T))")
	programs.reads(t, "signature S = sig val x : int type t type 'a u = 'a data d = A of t exception E of t structure T : sig end end",
		"Prog@0(DSig@0:S(GBody@14(GVal@18:x(YCon@26:int) GType@30:t GType@37:u#1(YVar@42:'a YVar@49:'a) "+
			"DData@52(DBind@57:d(Con@61:A(YCon@66:t))) DExn@68:E(YCon@83:t) GStruct@85:T(GBody@99))))")
	programs.reads(t, "signature S = sig type ('a, 'b) t data t = A and u = B end",
		"Prog@0(DSig@0:S(GBody@14(GType@18:t#2(YVar@24:'a YVar@28:'b) DData@34(DBind@39:t(Con@43:A) DBind@49:u(Con@53:B)))))")
	programs.stops(t, "structure ?s = A", "structure S?", "structure S = ?sig end", "structure S = ?a", "structure S ?:= A", "structure S : ?= A",
		"structure S : ?a = A", "structure S : A?.B = A", "structure S = struct ?signature T = A end",
		"structure S = struct val x = 1?", "structure S = struct ?x end", "structure S = struct end ?end", "signature ?s = A",
		"signature S ?: A", "signature S = ?struct end", "signature S = sig ?fun f x = 1 end", "signature S = sig val ?X : int end",
		"signature S = sig val x ?= 1 end", "signature S = sig type t = ?end", "signature S = sig ?open A end",
		"signature S = sig structure T ?:> A end", "signature S = sig structure T ?= A end", "signature S = sig?",
		"signature S = sig ?signature T = A end", "structure S :> T ?: U = A", "signature S = A ?. B",
		"signature S = sig val ?(x) : int end", "structure S = struct structure T = struct ?signature U = A end end")
}

func TestP2_1AllIsRead(t *testing.T) {
	exps.stops(t, "a ?val x = 1", "a ?end", "a ?then b", "a ?, b", "a ?=> b", "?")
	pats.stops(t, "a ?= b", "a ?, b")
	types.stops(t, "a ?= b", "a ?, b", "a ?=> b")
	programs.stops(t, "val a = b ?then")
	exps.fails(t, "val x = 1", api.ErrSyntax, 0)
}

// A string that says a sign or a word is neither.
func TestP2_1StringsAreNoSigns(t *testing.T) {
	exps.reads(t, `("+" "(" "in")`, `EApp@1(EApp@1(EStr@1:+ EStr@5:() EStr@9:in)`)
	exps.stops(t, `(a ")"?`)
	exps.fails(t, `[a "]"`, api.ErrSyntax, 6)
	pats.fails(t, `(x "as" y)`, api.ErrSyntax, 3)
	types.fails(t, `a "->" b`, api.ErrSyntax, 2)
	programs.fails(t, `"val" x = 1`, api.ErrSyntax, 0)
}

// The answer's lists are its own: nothing that is done to one of them is seen in another.
func TestP2_1ListsAreNotShared(t *testing.T) {
	text := "data ('a, 'b) t = A of ('a * 'b) t | B fun f x (y :: z :: w) : int = let val a = [1, 2, 3] in (a; b; (c, d, e)) end " +
		"and g [p, q, r] = case a + b * c of A (x, y) => 1 | B => f x y z end signature S = sig type ('a, 'b) t = int val x : (a, b) t end"
	first, f := Parse(text)
	second, _ := Parse(text)
	want := show(first)
	count := 0
	number(&first, &count)
	again := 0
	checkNumbers(t, &first, &again)
	if f.Kind != api.OK || count < 60 || show(second) != want {
		t.Errorf("%v, %d nodes, the second tree: %s, want %s", f, count, show(second), want)
	}
}

// number gives each node a number of its own, and fills what is free behind each list.
func number(n *api.Node, next *int) {
	n.N, n.At, n.Name = *next, *next, strings.Repeat("x", *next%7)
	*next++
	for i := range n.Kids {
		number(&n.Kids[i], next)
	}
	free := n.Kids[len(n.Kids):cap(n.Kids)]
	for i := range free {
		free[i] = api.Node{Kind: -1, N: -1, At: -1}
	}
}

func checkNumbers(t *testing.T, n *api.Node, next *int) {
	if n.N != *next || n.At != *next {
		t.Errorf("node %d has been changed: %d %d", *next, n.N, n.At)
	}
	*next++
	for i := range n.Kids {
		checkNumbers(t, &n.Kids[i], next)
	}
}
