/-
  The document's layer code: may an instruction's operands be (operands); what it takes and puts (takes, puts).
-/
import Derived.Test.YtlekoldicnfeeaaDoorC5
namespace Go.Proofs.YtlekoldicnfeeaaDoor
open Go.RowKit Go.Deep
def opOk (nt nf : Nat) (f : Fn) (x : In) (main : Bool) : Bool :=
  if x.op = 1 then decide (x.a < nt) else if x.op = 2 then decide (x.a < 12) else if x.op = 3 then !main else if x.op = 4 then decide (x.a < f.free) else if x.op = 5 ∨ x.op = 6 ∨ x.op = 14 then decide (x.a < f.slots)
  else if x.op = 7 then decide (0 < x.b) else if x.op = 12 then decide (x.a < 15) else if x.op = 13 then decide (0 < x.a) && decide (x.a < nf) else if x.op = 23 then decide (x.a < nt) && decide (x.b < 2) else if x.op = 24 then decide (x.a < 6) else true
def operandsP (nt nf : Nat) (f : Fn) (x : In) (main : Bool) : Int := if (x.op = 18 ∨ x.op = 19 ∨ x.op = 20) ∧ (f.ins.length : Int) ≤ x.a then 19 else if opOk nt nf f x main = true then 0 else 17
theorem out_of {op : Int} (h : ¬ (0 ≤ op ∧ op ≤ 25)) (k : Int) (hk : 0 ≤ k ∧ k ≤ 25) : (op == k) = false := by simp; omega
section
set_option maxHeartbeats 8000000
set_option maxRecDepth 100000
theorem operands_any (p : Option Addr) (nt cap : Nat) (p' : Option Addr) (nf cap' : Nat) (f : Fn) (q : Option Addr) (qc : Nat) (x : In) (main : Bool) (w : World) (hn : nt ≤ 2 ^ 62 ∧ nf ≤ 2 ^ 62 ∧ f.ins.length ≤ 2 ^ 62) :
    Calls Tryd.prog 48 #[.agg #[.slice p nt cap, .slice p' nf cap'], .agg #[.int .i64 f.free, .int .i64 f.slots, .slice q f.ins.length qc], .agg #[.int .i64 x.op, .int .i64 x.a, .int .i64 x.b], .bool main] w fun e w' => e = .returned (.int .i64 (operandsP nt nf f x main)) ∧ Below w.heap.size w w' := by
  obtain ⟨op, a, b⟩ := x
  obtain ⟨n1, n2, n3⟩ := hn
  have hb := (((Below.refl w.heap.size w).alloc (Nat.le_refl _) (Obj.cells #[Value.slice p nt cap, Value.slice p' nf cap'] 25)).alloc (by simp) (Obj.cells #[Value.int IntKind.i64 f.free, Value.int IntKind.i64 f.slots, Value.slice q f.ins.length qc] 50)).alloc (by simp; omega) (Obj.cells #[Value.int IntKind.i64 op, Value.int IntKind.i64 a, Value.int IntKind.i64 b] 47)
  have Hb : Hid _ := hb
  clear hb
  by_cases h : 0 ≤ op ∧ op ≤ 25
  · rcases ops op h with rfl | rfl | rfl | rfl | rfl | rfl | rfl | rfl | rfl | rfl | rfl | rfl | rfl | rfl | rfl | rfl | rfl | rfl | rfl | rfl | rfl | rfl | rfl | rfl | rfl | rfl
    all_goals clear h
    all_goals cases main
    all_goals go_enter Tryd.func48, Tryd.ntmps48
    all_goals go_wp2
    all_goals go_ret
    all_goals refine ⟨?_, Hb.out⟩
    all_goals first | rfl | (simp [operandsP, opOk]; done) | (simp [operandsP, opOk]; omega) | (simp_all [operandsP, opOk]; done)
  · have e : operandsP nt nf f ⟨op, a, b⟩ main = 0 := by
      unfold operandsP opOk
      simp [show ¬ op = 1 by omega, show ¬ op = 2 by omega, show ¬ op = 3 by omega, show ¬ op = 4 by omega, show ¬ op = 5 by omega, show ¬ op = 6 by omega, show ¬ op = 7 by omega, show ¬ op = 12 by omega, show ¬ op = 13 by omega, show ¬ op = 14 by omega, show ¬ op = 18 by omega, show ¬ op = 19 by omega, show ¬ op = 20 by omega, show ¬ op = 23 by omega, show ¬ op = 24 by omega]
    rw [e]
    have b0 := out_of h 0 (by omega)
    have b1 := out_of h 1 (by omega)
    have b2 := out_of h 2 (by omega)
    have b3 := out_of h 3 (by omega)
    have b4 := out_of h 4 (by omega)
    have b5 := out_of h 5 (by omega)
    have b6 := out_of h 6 (by omega)
    have b7 := out_of h 7 (by omega)
    have b8 := out_of h 8 (by omega)
    have b9 := out_of h 9 (by omega)
    have b10 := out_of h 10 (by omega)
    have b11 := out_of h 11 (by omega)
    have b12 := out_of h 12 (by omega)
    have b13 := out_of h 13 (by omega)
    have b14 := out_of h 14 (by omega)
    have b15 := out_of h 15 (by omega)
    have b16 := out_of h 16 (by omega)
    have b17 := out_of h 17 (by omega)
    have b18 := out_of h 18 (by omega)
    have b19 := out_of h 19 (by omega)
    have b20 := out_of h 20 (by omega)
    have b21 := out_of h 21 (by omega)
    have b22 := out_of h 22 (by omega)
    have b23 := out_of h 23 (by omega)
    have b24 := out_of h 24 (by omega)
    have b25 := out_of h 25 (by omega)
    clear h e
    go_enter Tryd.func48, Tryd.ntmps48
    go_wp2
    go_ret
    exact ⟨rfl, Hb.out⟩
end
end Go.Proofs.YtlekoldicnfeeaaDoor
