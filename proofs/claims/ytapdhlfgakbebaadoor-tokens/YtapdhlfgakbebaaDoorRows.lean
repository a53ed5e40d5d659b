/-
  NARROWER THAN 'FOR EVERY INPUT', by the rows' own cells (each row's printed sentence says how): Tokens: laid · Quotes: laid · Split: laid.
  DERIVED. THE GIVEN ROWS OF THIS SEAT. 3 by the template 'for every input the law returns true; each argument reads behind the call as it read before'; 0 by the template 'total and deterministic' (their statements: YtapdhlfgakbebaaDoorTotals.lean).
  GIVEN WITH THE SEED: the statements are not yours to turn. If you find one false, say at which input.
  Laid BY PROGRAM, IN A SANDBOX (cutbox-rows.mjs): the forced cells as the released guide's own fill.sh prints them over the translation 8b2e3ac82f67a5b5… (all of the seat's roots in one cut). By AI agents, Wed Nov 11 2026. No macro, syntax, notation, axiom, sorry.
-/
import Derived.Test.YtapdhlfgakbebaaDoorChecked
import GoSem.Claim
import GoSem.ClaimJoined
import GoSem.ClaimMapViews
import Derived.JoinedTies
import Derived.KernelRfl
namespace Go.Proofs.YtapdhlfgakbebaaDoor
/- THE CELL 'sum', in the pinned program and in every row, IS THE sha256 OF THE DUMP (.gsa) THAT YtapdhlfgakbebaaDoorProg.lean LOADS. Nothing in Lean hashes anything: it is a label: what it is worth is what the hold of that sum in a sandbox is worth. -/
noncomputable def Tryd.pinned : Pinned := { name := "ytapdhlfgakbebaadoor", sum := "8b2e3ac82f67a5b5fae234cb837b134efd4f86c2fa41a3e9e904ff8cfd5f6205", checked := Tryd.checked }
namespace Rows
def none {H : Type} : Left H := { results := [], args := [] }

/- WHAT THE LISTED PACKAGE-LEVEL VARIABLES READ AS WHEN THE CALL BEGINS. Each datum BY PROGRAM (the guide's laid-datum.mjs) off the statement by which the dump's own 'gosem.cut.vars' lays the variable. In a bare row this is a premise. The card (YtapdhlfgakbebaaDoorCards.lean) ties it to the program's text. -/
def laid_mlcore_lexer_signs {H : Type} : DataW H := .agg [.lit (.string [61, 62]), .lit (.string [45, 62]), .lit (.string [58, 61]), .lit (.string [58, 58]), .lit (.string [58, 62]), .lit (.string [60, 62]), .lit (.string [60, 61]), .lit (.string [62, 61]), .lit (.string [40]), .lit (.string [41]), .lit (.string [91]), .lit (.string [93]), .lit (.string [44]), .lit (.string [59]), .lit (.string [58]), .lit (.string [124]), .lit (.string [61]), .lit (.string [60]), .lit (.string [62]), .lit (.string [43]), .lit (.string [45]), .lit (.string [42]), .lit (.string [47]), .lit (.string [37]), .lit (.string [94]), .lit (.string [126]), .lit (.string [33]), .lit (.string [46]), .lit (.string [95])]
def laid_mlcore_lexer_escapes {H : Type} : DataW H := .agg [.agg [.lit (.int .u8 110), .lit (.int .u8 10)], .agg [.lit (.int .u8 116), .lit (.int .u8 9)], .agg [.lit (.int .u8 92), .lit (.int .u8 92)], .agg [.lit (.int .u8 34), .lit (.int .u8 34)]]

/-- 'mlcorelaw1.Tokens': WHATEVER THE INPUT: true; the input reads as it did. -/
def tokensSpec : ChangeSpec := { name := "tokens", fn := fun _ => fun
  | [d] => { results := [.lit (.bool true)], args := [d] }
  | _ => none }
def tokensRow : OpenClaim := { program := "ytapdhlfgakbebaadoor", sum := "8b2e3ac82f67a5b5fae234cb837b134efd4f86c2fa41a3e9e904ff8cfd5f6205", func := "mlcore/mlcorelaw1.Tokens", spec := "tokens", named := ["mlcore/lexer.escapes", "mlcore/lexer.signs"], apart := false, laid := [("mlcore/lexer.signs", laid_mlcore_lexer_signs), ("mlcore/lexer.escapes", laid_mlcore_lexer_escapes)] }
def TokensSaid : Prop := tokensRow.holds Tryd.pinned (OpenSpec.ofChange tokensSpec)

/-- ITS FALSE NEIGHBOUR: 'it returns false'. Refute it at one input. -/
def tokensWrong : ChangeSpec := { name := "tokens", fn := fun _ => fun
  | [d] => { results := [.lit (.bool false)], args := [d] }
  | _ => none }
def TokensWrongFalsely : Prop := tokensRow.holds Tryd.pinned (OpenSpec.ofChange tokensWrong)

/-- 'mlcorelaw1.Quotes': WHATEVER THE INPUT: true; the input reads as it did. -/
def quotesSpec : ChangeSpec := { name := "quotes", fn := fun _ => fun
  | [d] => { results := [.lit (.bool true)], args := [d] }
  | _ => none }
def quotesRow : OpenClaim := { program := "ytapdhlfgakbebaadoor", sum := "8b2e3ac82f67a5b5fae234cb837b134efd4f86c2fa41a3e9e904ff8cfd5f6205", func := "mlcore/mlcorelaw1.Quotes", spec := "quotes", named := ["mlcore/lexer.escapes", "mlcore/lexer.signs"], apart := false, laid := [("mlcore/lexer.signs", laid_mlcore_lexer_signs), ("mlcore/lexer.escapes", laid_mlcore_lexer_escapes)] }
def QuotesSaid : Prop := quotesRow.holds Tryd.pinned (OpenSpec.ofChange quotesSpec)

/-- ITS FALSE NEIGHBOUR: 'it returns false'. Refute it at one input. -/
def quotesWrong : ChangeSpec := { name := "quotes", fn := fun _ => fun
  | [d] => { results := [.lit (.bool false)], args := [d] }
  | _ => none }
def QuotesWrongFalsely : Prop := quotesRow.holds Tryd.pinned (OpenSpec.ofChange quotesWrong)

/-- 'mlcorelaw1.Split': WHATEVER THE INPUT: true; the input reads as it did. -/
def splitSpec : ChangeSpec := { name := "split", fn := fun _ => fun
  | [d1, d2] => { results := [.lit (.bool true)], args := [d1, d2] }
  | _ => none }
def splitRow : OpenClaim := { program := "ytapdhlfgakbebaadoor", sum := "8b2e3ac82f67a5b5fae234cb837b134efd4f86c2fa41a3e9e904ff8cfd5f6205", func := "mlcore/mlcorelaw1.Split", spec := "split", named := ["mlcore/lexer.escapes", "mlcore/lexer.signs"], apart := false, laid := [("mlcore/lexer.signs", laid_mlcore_lexer_signs), ("mlcore/lexer.escapes", laid_mlcore_lexer_escapes)] }
def SplitSaid : Prop := splitRow.holds Tryd.pinned (OpenSpec.ofChange splitSpec)

/-- ITS FALSE NEIGHBOUR: 'it returns false'. Refute it at one input. -/
def splitWrong : ChangeSpec := { name := "split", fn := fun _ => fun
  | [d1, d2] => { results := [.lit (.bool false)], args := [d1, d2] }
  | _ => none }
def SplitWrongFalsely : Prop := splitRow.holds Tryd.pinned (OpenSpec.ofChange splitWrong)

/- THE SECOND FORM. 'bulk': how many values and letters a reading holds, each counted each time it is reached (what is shared counts as often as it is met; a slice's spare places count too). A statement '..UptoSaid' is the law's where the arguments, and the package variables that the reading takes, are together of bulk at most 1048576: NARROWER than '..Said'. Prove '..Said' where nothing that the law and all that it calls make is longer than what came in: it says more and counts as full. Else prove '..UptoSaid'. A law counts once. -/
mutual
def uptoBulk {H : Type} : DataW H → Nat
  | .lit (.string bytes) => bytes.length + 1
  | .lit _ => 1
  | .nil => 1
  | .ptr d => uptoBulk d + 1
  | .slice elems spare => uptoBulkAll elems + uptoBulkAll spare + 1
  | .agg parts => uptoBulkAll parts + 1
  | .iface _ d => uptoBulk d + 1
  | .map entries => uptoBulkEntries entries + 1
  | .held _ => 1
def uptoBulkAll {H : Type} : List (DataW H) → Nat
  | [] => 0
  | d :: r => uptoBulk d + uptoBulkAll r
def uptoBulkEntries {H : Type} : List (Lit × DataW H) → Nat
  | [] => 0
  | x :: r => uptoBulkEntry x + uptoBulkEntries r
def uptoBulkEntry {H : Type} : Lit × DataW H → Nat
  | (.string bytes, d) => bytes.length + uptoBulk d + 1
  | (_, d) => uptoBulk d + 1
 end
def uptoSmall : (H : Type) → List (DataW H) → Bool := fun _ ds => decide (uptoBulkAll ds ≤ 1048576)
def OpenSpec.upto (s : _root_.Go.ChangeSpec) : _root_.Go.OpenSpec := { _root_.Go.OpenSpec.ofChange s with cond := some uptoSmall }

/-- 'mlcorelaw1.Tokens', WHERE WHAT IT READS IS OF BULK AT MOST 1048576: true; the input reads as it did. -/
def tokensUptoRow : OpenClaim := { program := "ytapdhlfgakbebaadoor", sum := "8b2e3ac82f67a5b5fae234cb837b134efd4f86c2fa41a3e9e904ff8cfd5f6205", func := "mlcore/mlcorelaw1.Tokens", spec := "tokens", named := ["mlcore/lexer.escapes", "mlcore/lexer.signs"], apart := false, laid := [("mlcore/lexer.signs", laid_mlcore_lexer_signs), ("mlcore/lexer.escapes", laid_mlcore_lexer_escapes)], narrowed := true }
def TokensUptoSaid : Prop := tokensUptoRow.holds Tryd.pinned (OpenSpec.upto tokensSpec)

/-- 'mlcorelaw1.Quotes', WHERE WHAT IT READS IS OF BULK AT MOST 1048576: true; the input reads as it did. -/
def quotesUptoRow : OpenClaim := { program := "ytapdhlfgakbebaadoor", sum := "8b2e3ac82f67a5b5fae234cb837b134efd4f86c2fa41a3e9e904ff8cfd5f6205", func := "mlcore/mlcorelaw1.Quotes", spec := "quotes", named := ["mlcore/lexer.escapes", "mlcore/lexer.signs"], apart := false, laid := [("mlcore/lexer.signs", laid_mlcore_lexer_signs), ("mlcore/lexer.escapes", laid_mlcore_lexer_escapes)], narrowed := true }
def QuotesUptoSaid : Prop := quotesUptoRow.holds Tryd.pinned (OpenSpec.upto quotesSpec)

/-- 'mlcorelaw1.Split', WHERE WHAT IT READS IS OF BULK AT MOST 1048576: true; the input reads as it did. -/
def splitUptoRow : OpenClaim := { program := "ytapdhlfgakbebaadoor", sum := "8b2e3ac82f67a5b5fae234cb837b134efd4f86c2fa41a3e9e904ff8cfd5f6205", func := "mlcore/mlcorelaw1.Split", spec := "split", named := ["mlcore/lexer.escapes", "mlcore/lexer.signs"], apart := false, laid := [("mlcore/lexer.signs", laid_mlcore_lexer_signs), ("mlcore/lexer.escapes", laid_mlcore_lexer_escapes)], narrowed := true }
def SplitUptoSaid : Prop := splitUptoRow.holds Tryd.pinned (OpenSpec.upto splitSpec)

end Rows
end Go.Proofs.YtapdhlfgakbebaaDoor
