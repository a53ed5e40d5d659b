/-
  The program's Check: how many values an instruction takes (takes).
-/
import Derived.Test.YtlekoldicnfeeaaDoorK0
namespace Go.Proofs.YtlekoldicnfeeaaDoor
open Go.RowKit Go.Deep
theorem Below.drewN' {B : Nat} {a w : World} (h : Below B a w) (n : Nat) : Below B a (w.drewN n) := ⟨h.os, h.tape, h.output, h.size, h.block⟩
theorem take_table (fs : List Fn) (k : Nat) (hk : k < 26) (a b : Int) (h7 : k ≠ 7) (h12 : k ≠ 12) (h13 : k ≠ 13) : takesP fs ⟨k, a, b⟩ = takeOf k := by
  rcases nats26 k hk with rfl | rfl | rfl | rfl | rfl | rfl | rfl | rfl | rfl | rfl | rfl | rfl | rfl | rfl | rfl | rfl | rfl | rfl | rfl | rfl | rfl | rfl | rfl | rfl | rfl | rfl <;> first | (exact absurd rfl h7) | (exact absurd rfl h12) | (exact absurd rfl h13) | simp [takesP, takeOf, takeT]
theorem put_table (k : Nat) (hk : k < 26) (a b : Int) : putsP ⟨k, a, b⟩ = putOf k := by
  rcases nats26 k hk with rfl | rfl | rfl | rfl | rfl | rfl | rfl | rfl | rfl | rfl | rfl | rfl | rfl | rfl | rfl | rfl | rfl | rfl | rfl | rfl | rfl | rfl | rfl | rfl | rfl | rfl <;> simp [putsP, putOf, putT]
theorem oper_sign {nt nf : Nat} {f : Fn} {x : In} {main : Bool} (h : operandsP nt nf f x main = 0) (hx : x.op = 12) : x.a < 15 := by
  unfold operandsP at h
  rw [if_neg (by omega)] at h
  split at h
  · rename_i ho
    unfold opOk at ho
    simpa [hx] using ho
  · cases h
section
set_option maxHeartbeats 8000000
set_option maxRecDepth 100000
theorem takesC_any (w : World) (p : Option Addr) (nt cap : Nat) (p' : Option Addr) (cap' : Nat) (fs : List Fn) (f : Fn) (main : Bool) (k : Nat) (hk : k < 26) (a c : Int) (hx : In.ok ⟨k, a, c⟩ = true) (ho : operandsP nt fs.length f ⟨k, a, c⟩ main = 0) (hF : FunsIn w p' fs) (hS : ShIn w) (hG : SgIn w) :
    Calls Tryd.prog 69 #[.agg #[.slice p nt cap, .slice p' fs.length cap'], .agg #[.int .i64 k, .int .i64 a, .int .i64 c]] w fun e w' => e = .returned (.int .i64 (takesP fs ⟨k, a, c⟩)) ∧ Below w.heap.size w w' := by
  have hba : Below w.heap.size w ((w.alloc (.cells #[.slice p nt cap, .slice p' fs.length cap'] 25)).alloc (.cells #[.int .i64 k, .int .i64 a, .int .i64 c] 47)) := ((Below.refl _ _).alloc (Nat.le_refl _) _).alloc (by simp) _
  have HB : Hid _ := hba
  have hk' : (k : Int) < 26 := by omega
  by_cases h7 : k = 7
  · subst h7
    rw [show takesP fs ⟨(7 : Nat), a, c⟩ = c by simp [takesP]]
    clear hba hk'
    go_enter Tryd.func69, Tryd.ntmps69
    go_wp2
    go_ret
    exact ⟨rfl, HB.out⟩
  by_cases h13 : k = 13
  · subst h13
    obtain ⟨a1, a2⟩ := oper_make ho rfl
    simp only at a1 a2
    obtain ⟨j, rfl⟩ : ∃ j : Nat, a = (j : Int) := ⟨a.toNat, by omega⟩
    have hj : j < fs.length := by omega
    obtain ⟨fb, fo, q, qc, rfl, hbw, hfc, hIn⟩ := (hF.below hba).get j hj
    obtain ⟨y0, y1, y2⟩ := hfc
    rw [show takesP fs ⟨(13 : Nat), j, c⟩ = (fs[j]'hj).free by simp [takesP, hj]]
    clear hba hk' hIn ho hx
    generalize (fs[j]'hj).free = fr at *
    simp only [Int.cast_ofNat_Int] at *
    go_enter Tryd.func69, Tryd.ntmps69
    go_wp2
    go_ret
    exact ⟨rfl, HB.out⟩
  have hx7 : ((k : Int) == 7) = false := by simp; omega
  have hx13 : ((k : Int) == 13) = false := by simp; omega
  by_cases h12 : k = 12
  · subst h12
    have a2 := oper_sign ho rfl
    have a1 := (two_range (In.ok_one hx rfl)).1
    simp only at a1 a2
    obtain ⟨j, rfl⟩ : ∃ j : Nat, a = (j : Int) := ⟨a.toNat, by omega⟩
    have hj : j < 15 := by omega
    have g0 := (hG.below hba).cell j hj
    have hj' : (j : Int) < 15 := by omega
    have hT : takesP fs ⟨(12 : Nat), j, c⟩ = if j = 12 ∨ j = 14 then 1 else 2 := by
      simp only [takesP]
      simp
      omega
    rw [hT]
    clear hba hk' ho hx hT hx7 hx13 h7 h13
    have : j = 0 ∨ j = 1 ∨ j = 2 ∨ j = 3 ∨ j = 4 ∨ j = 5 ∨ j = 6 ∨ j = 7 ∨ j = 8 ∨ j = 9 ∨ j = 10 ∨ j = 11 ∨ j = 12 ∨ j = 13 ∨ j = 14 := by omega
    rcases this with rfl | rfl | rfl | rfl | rfl | rfl | rfl | rfl | rfl | rfl | rfl | rfl | rfl | rfl | rfl
    all_goals simp only [signT, List.getElem?_cons_zero, List.getElem?_cons_succ, Option.getD_some] at g0
    all_goals simp only [Int.cast_ofNat_Int] at *
    all_goals go_enter Tryd.func69, Tryd.ntmps69
    all_goals go_wp2
    all_goals go_ret
    all_goals exact ⟨rfl, HB.out⟩
  have hx12 : ((k : Int) == 12) = false := by simp; omega
  obtain ⟨-, c1, -⟩ := (hS.below hba).cells k hk
  rw [take_table fs k hk a c h7 h12 h13]
  clear hba ho hx h7 h12 h13
  generalize takeOf k = tk at *
  go_enter Tryd.func69, Tryd.ntmps69
  go_wp2
  go_ret
  exact ⟨rfl, HB.out⟩
end
end Go.Proofs.YtlekoldicnfeeaaDoor
