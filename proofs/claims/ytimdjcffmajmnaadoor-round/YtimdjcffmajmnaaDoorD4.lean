/-
  The program's reader of bytes: a number of a program (number).
-/
import Derived.Test.YtimdjcffmajmnaaDoorD3
import Derived.Test.YtimdjcffmajmnaaDoorE0
namespace Go.Proofs.YtimdjcffmajmnaaDoor
open Go.RowKit Go.Deep
section
set_option maxHeartbeats 8000000
set_option maxRecDepth 100000
theorem number_read (w : World) (rp : Nat) (S : ByteArray) (pos : Nat) (h : PBox w rp S pos) (hS : S.size ≤ 4000000) (hp : pos ≤ 4000000) : Calls Tryd.prog 68 #[.pointer (some ⟨rp, 0, none⟩)] w fun e w' => e = .returned (.tuple #[.int .i64 (argR S 105 ⟨pos, 0, 0⟩).1, evR (argR S 105 ⟨pos, 0, 0⟩).2.kind (argR S 105 ⟨pos, 0, 0⟩).2.fat]) ∧ PBox w' rp S (argR S 105 ⟨pos, 0, 0⟩).2.pos ∧ Kp [rp] w w' := by
  obtain ⟨c0, c1, c2, c3⟩ := h.cells
  by_cases hgt : (S.size : Int) - pos < 4
  · have Hc : Hid _ := natural_short w rp S pos 4 h hS hp hgt
    have e : argR S 105 ⟨pos, 0, 0⟩ = (0, ⟨pos, 16, S.size⟩) := by
      have := num0_short (S := S) (n := 4) (pos := pos) hgt
      unfold num0 at this
      unfold argR
      rw [this]
      simp [signed]
    rw [e]
    clear h e
    go_enter Tryd.func68, Tryd.ntmps68
    go_wp2_with fail
    refine Calls.mono Hc.out ?_
    rintro e1 w1 ⟨rfl, hq⟩
    have Hq : Hid _ := hq
    clear hq Hc
    go_wp2
    exact bodyPost_ret (v := .tuple #[.int .i64 0, .iface 63 (.agg #[.int .i64 16, .int .i64 S.size])]) (by simp [results, Tryd.results68, go_sem]) rfl ⟨rfl, Hq.out⟩
  · have Hc : Hid _ := natural_ok w rp S pos 4 h hS (by omega) (by omega)
    have hv := numAt_pos S pos 4
    obtain ⟨v, hvv⟩ : ∃ v, v = numAt S pos 4 := ⟨_, rfl⟩
    rw [← hvv] at Hc hv
    have e : argR S 105 ⟨pos, 0, 0⟩ = (signed v, if isNum (signed v) = true then ⟨pos + 4, 0, 0⟩ else ⟨pos + 4, 17, pos⟩) := by
      have := num0_ok (S := S) (n := 4) (pos := pos) hgt
      unfold num0 at this
      unfold argR
      rw [this, ← hvv]
      simp only [if_true]
      by_cases h1 : 1000000000 < signed v ∨ signed v < -1000000000
      · have hf : isNum (signed v) = false := by
          unfold isNum
          rw [Bool.and_eq_false_iff, decide_eq_false_iff_not, decide_eq_false_iff_not]
          omega
        rw [if_pos h1, hf]
        rfl
      · have hf : isNum (signed v) = true := by
          unfold isNum
          rw [Bool.and_eq_true, decide_eq_true_eq, decide_eq_true_eq]
          omega
        rw [if_neg h1, hf]
        rfl
    have Hnum : Hid (∀ wx : World, Calls Tryd.prog 66 #[.int .i64 (signed v)] wx fun e w2 => e = .returned (.bool (isNum (signed v))) ∧ w2 = wx) := fun wx => isNum_any (signed v) wx
    rw [e]
    have hws : wrap64 (wrap32 v) = signed v := by
      unfold signed
      simp only [wrap64, wrap32]
      split <;> omega
    clear h e hvv
    generalize isNum (signed v) = c at *
    generalize signed v = sv at *
    go_enter Tryd.func68, Tryd.ntmps68
    go_wp2_with fail
    refine Calls.mono Hc.out ?_
    rintro e1 w1 ⟨rfl, hq⟩
    have Hq : Hid _ := hq
    clear hq Hc
    go_upto_region 4 with fail
    rw [hws]
    cases c
    · have Hr : Hid _ := refuse_any 17 pos w1
      go_wp2_with fail
      refine Calls.mono (Hnum.out _) ?_
      rintro e2 w2 ⟨rfl, rfl⟩
      clear Hnum
      go_wp2_with fail
      refine Calls.mono Hr.out ?_
      rintro e2 w2 ⟨rfl, rfl⟩
      go_wp2
      exact bodyPost_ret (v := .tuple #[.int .i64 sv, .iface 63 (.agg #[.int .i64 17, .int .i64 pos])]) (by simp [results, Tryd.results68, go_sem]) rfl ⟨rfl, Hq.out⟩
    · go_wp2_with fail
      refine Calls.mono (Hnum.out _) ?_
      rintro e2 w2 ⟨rfl, rfl⟩
      clear Hnum
      go_wp2
      exact bodyPost_ret (v := .tuple #[.int .i64 sv, .nilIface]) (by simp [results, Tryd.results68, go_sem]) rfl ⟨rfl, Hq.out⟩
end
end Go.Proofs.YtimdjcffmajmnaaDoor
