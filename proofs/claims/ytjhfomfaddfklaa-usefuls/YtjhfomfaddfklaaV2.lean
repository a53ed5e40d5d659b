/-
  The program's layer matches: may a part be (shaped)? Is there room for patterns (takes)?
-/
import Derived.Test.YtjhfomfaddfklaaV1
namespace Go.Proofs.Ytjhfomfaddfklaa
open Go.RowKit Go.Deep
section
set_option maxHeartbeats 8000000
set_option maxRecDepth 100000
theorem shaped_any (c : PC) (w : World) (hm : c.len ≤ maxLen) : Calls Try.prog 38 #[c.val] w fun e w' => e = .returned (.bool (okP c.k c.n c.o c.len)) ∧ Below w.heap.size w w' := by
  obtain ⟨k, n, o, a, s, p, len, cap⟩ := c
  simp only [PC.val]
  unfold maxLen at hm
  have HQ : Hid (Below w.heap.size w (w.alloc (PC.obj ⟨k, n, o, a, s, p, len, cap⟩))) := (Below.refl _ _).alloc (Nat.le_refl _) _
  by_cases h0 : k = 0 ∨ k = 1 ∨ k = 3 ∨ k = 4
  · have R : okP k n o len = ((len : Int) == 0) := by
      unfold okP
      rw [if_pos h0]
      by_cases h : len = 0 <;> simp [h]
    rw [R]
    clear R
    rcases h0 with rfl | rfl | rfl | rfl <;>
    · go_enter Try.func38, Try.ntmps38
      go_wp2
      go_ret
      exact ⟨rfl, HQ.out⟩
  · have e0 : (k == 0) = false := by rw [beq_eq_false_iff_ne]; omega
    have e1 : (k == 1) = false := by rw [beq_eq_false_iff_ne]; omega
    have e3 : (k == 3) = false := by rw [beq_eq_false_iff_ne]; omega
    have e4 : (k == 4) = false := by rw [beq_eq_false_iff_ne]; omega
    by_cases h2 : k = 2
    · have R : okP k n o len = ((len : Int) == 1) := by
        unfold okP
        rw [if_neg h0, if_pos h2]
        by_cases h : len = 1 <;> simp [h]
        omega
      rw [R]
      clear R h0
      subst h2
      go_enter Try.func38, Try.ntmps38
      go_wp2
      go_ret
      exact ⟨rfl, HQ.out⟩
    · have e2 : (k == 2) = false := by rw [beq_eq_false_iff_ne]; omega
      by_cases h5 : k = 5
      · have R : okP k n o len = ((len : Int) != 1) := by
          unfold okP
          rw [if_neg h0, if_neg h2, if_pos h5]
          by_cases h : len = 1 <;> simp [h]
          omega
        rw [R]
        clear R h0 h2
        subst h5
        go_enter Try.func38, Try.ntmps38
        go_wp2
        go_ret
        exact ⟨rfl, HQ.out⟩
      · have e5 : (k == 5) = false := by rw [beq_eq_false_iff_ne]; omega
        by_cases h6 : k = 6
        · have R : okP k n o len = (decide (len ≤ 1) && (decide (0 ≤ n) && decide (n < o))) := by
            unfold okP
            rw [if_neg h0, if_neg h2, if_neg h5, if_pos h6]
          rw [R]
          clear R h0 h2 h5
          subst h6
          by_cases g1 : len ≤ 1
          · have g1' : (len : Int) ≤ 1 := by omega
            by_cases g2 : 0 ≤ n
            · by_cases g3 : n < o
              · have R : (decide (len ≤ 1) && (decide (0 ≤ n) && decide (n < o))) = true := by simp [g1, g2, g3]
                rw [R]
                clear R
                go_enter Try.func38, Try.ntmps38
                go_wp2
                go_ret
                exact ⟨rfl, HQ.out⟩
              · have R : (decide (len ≤ 1) && (decide (0 ≤ n) && decide (n < o))) = false := by simp [g3]
                rw [R]
                clear R
                go_enter Try.func38, Try.ntmps38
                go_wp2
                go_ret
                exact ⟨rfl, HQ.out⟩
            · have R : (decide (len ≤ 1) && (decide (0 ≤ n) && decide (n < o))) = false := by simp [g2]
              rw [R]
              clear R
              go_enter Try.func38, Try.ntmps38
              go_wp2
              go_ret
              exact ⟨rfl, HQ.out⟩
          · have g1' : ¬ (len : Int) ≤ 1 := by omega
            have R : (decide (len ≤ 1) && (decide (0 ≤ n) && decide (n < o))) = false := by simp [g1]
            rw [R]
            clear R g1
            go_enter Try.func38, Try.ntmps38
            go_wp2
            go_ret
            exact ⟨rfl, HQ.out⟩
        · have e6 : (k == 6) = false := by rw [beq_eq_false_iff_ne]; omega
          by_cases h7 : k = 7
          · have R : okP k n o len = decide ((len : Int) ≤ 1) := by
              unfold okP
              rw [if_neg h0, if_neg h2, if_neg h5, if_neg h6, if_pos h7]
              by_cases h : len ≤ 1
              · have : (len : Int) ≤ 1 := by omega
                simp [h, this]
              · have : ¬ (len : Int) ≤ 1 := by omega
                simp [h, this]
            rw [R]
            clear R h0 h2 h5 h6
            subst h7
            go_enter Try.func38, Try.ntmps38
            go_wp2
            go_ret
            exact ⟨rfl, HQ.out⟩
          · have e7 : (k == 7) = false := by rw [beq_eq_false_iff_ne]; omega
            have R : okP k n o len = false := by
              unfold okP
              rw [if_neg h0, if_neg h2, if_neg h5, if_neg h6, if_neg h7]
            rw [R]
            clear R h0 h2 h5 h6 h7
            go_enter Try.func38, Try.ntmps38
            go_wp2
            go_ret
            exact ⟨rfl, HQ.out⟩
end
end Go.Proofs.Ytjhfomfaddfklaa
