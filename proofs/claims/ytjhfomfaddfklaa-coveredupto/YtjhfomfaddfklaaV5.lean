/-
  The program's layer matches: what a pattern asks for by itself (headOf).
-/
import Derived.Test.YtjhfomfaddfklaaMB
namespace Go.Proofs.Ytjhfomfaddfklaa
open Go.RowKit Go.Deep
/-- The head of six cells. -/
def hdC (c : PC) : Hd := ⟨c.k, if c.k = 3 ∨ c.k = 6 ∨ c.k = 7 ∨ c.k = 4 then c.n else 0, if c.k = 4 then c.s else { data := #[] }, c.len⟩
theorem below3 (w : World) (a b c : Obj) : Below w.heap.size w (((w.alloc a).alloc b).alloc c) := (below2 w a b).alloc (by simp; omega) c
section
set_option maxHeartbeats 8000000
set_option maxRecDepth 100000
theorem headOf_any (c : PC) (w : World) : Calls Try.prog 48 #[c.val] w fun e w' => e = .returned (hdC c).val ∧ Below w.heap.size w w' := by
  obtain ⟨k, n, o, a, s, p, len, cap⟩ := c
  simp only [PC.val, hdC, Hd.val]
  by_cases h3 : k = 3 ∨ k = 6 ∨ k = 7
  · have h4 : k ≠ 4 := by omega
    rw [if_pos (by omega), if_neg h4]
    have e4 : (k == 4) = false := by simpa using h4
    rcases h3 with rfl | rfl | rfl <;>
    · go_enter Try.func48, Try.ntmps48
      go_wp2
      exact bodyPost_ret (by simp [results, Try.results48, go_sem]) rfl ⟨rfl, below3 _ _ _ _⟩
  · have e3 : (k == 3) = false := by rw [beq_eq_false_iff_ne]; omega
    have e6 : (k == 6) = false := by rw [beq_eq_false_iff_ne]; omega
    have e7 : (k == 7) = false := by rw [beq_eq_false_iff_ne]; omega
    by_cases h4 : k = 4
    · rw [if_pos (by omega), if_pos h4]
      subst h4
      go_enter Try.func48, Try.ntmps48
      go_wp2_with fail
      go_region
      all_goals go_wp2
      all_goals exact bodyPost_ret (by simp [results, Try.results48, go_sem]) rfl ⟨rfl, (below3 _ _ _ _).drew⟩
    · rw [if_neg (by omega), if_neg h4]
      have e4 : (k == 4) = false := by simpa using h4
      clear h3 h4
      go_enter Try.func48, Try.ntmps48
      go_wp2
      exact bodyPost_ret (by simp [results, Try.results48, go_sem]) rfl ⟨rfl, below3 _ _ _ _⟩
end
end Go.Proofs.Ytjhfomfaddfklaa
