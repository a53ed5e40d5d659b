/-
  The law Covered's own functions, one: numbers of what is drawn (pick, of, parts), a kid.
-/
import Derived.Test.YtjhfomfaddfklaaU17
namespace Go.Proofs.Ytjhfomfaddfklaa
open Go.RowKit Go.Deep
def pickP (n m : Int) : Int := (if n < 0 then -(n + 1) else n).tmod m
def ofP (t : Int) : Int := if t = 5 then 3 else 2
def partsP (t n : Int) : Int := if t = 2 ∧ n = 1 then 0 else if t = 3 ∧ n = 1 then -2 else if t = 5 ∧ n = 1 then 1 else if t = 5 ∧ n = 2 then 4 else -1
section
set_option maxHeartbeats 4000000
set_option maxRecDepth 100000
theorem of_any (t : Int) (w : World) : Calls Try.prog 18 #[.int .i64 t] w fun e w' => e = .returned (.int .i64 (ofP t)) ∧ w' = w := by
  by_cases h : t = 5
  · subst h
    go_enter Try.func18, Try.ntmps18
    go_wp2
    go_ret
    exact ⟨rfl, rfl⟩
  · have hb : (t == 5) = false := by simpa using h
    rw [show ofP t = 2 by unfold ofP; rw [if_neg h]]
    clear h
    go_enter Try.func18, Try.ntmps18
    go_wp2
    go_ret
    exact ⟨rfl, rfl⟩
theorem pick_any (n m : Int) (hn : -9223372036854775808 ≤ n) (hm : 0 < m) (w : World) : Calls Try.prog 7 #[.int .i64 n, .int .i64 m] w fun e w' => e = .returned (.int .i64 (pickP n m)) ∧ w' = w := by
  have hm0 : (m == 0) = false := by simp; omega
  by_cases h : n < 0
  · have hb : decide (n < 0) = true := by simpa using h
    rw [show pickP n m = -(n + 1).tmod m by unfold pickP; rw [if_pos h, Int.neg_tmod]]
    have h1 : wrap64 (n + 1) = n + 1 := by unfold wrap64; omega
    have h2 : wrap64 (-(n + 1)) = -(n + 1) := by unfold wrap64; omega
    clear h
    go_enter Try.func7, Try.ntmps7
    go_wp2
    try rw [h1, h2]
    go_ret
    exact ⟨rfl, rfl⟩
  · have hb : decide (n < 0) = false := by simpa using h
    rw [show pickP n m = n.tmod m by unfold pickP; rw [if_neg h]]
    clear h
    go_enter Try.func7, Try.ntmps7
    go_wp2
    go_ret
    exact ⟨rfl, rfl⟩
theorem pick_low (n m : Int) (hm : 0 < m) : 0 ≤ pickP n m ∧ pickP n m < m := by
  unfold pickP
  have hx : 0 ≤ (if n < 0 then -(n + 1) else n) := by split <;> omega
  generalize (if n < 0 then -(n + 1) else n) = x at *
  rw [Int.tmod_eq_emod_of_nonneg hx]
  exact ⟨Int.emod_nonneg _ (by omega), Int.emod_lt_of_pos _ hm⟩
theorem parts_any (t n : Int) (w : World) : Calls Try.prog 19 #[.int .i64 t, .int .i64 n] w fun e w' => e = .returned (.int .i64 (partsP t n)) ∧ w' = w := by
  generalize hr : partsP t n = r
  unfold partsP at hr
  by_cases t2 : t = 2
  · subst t2
    by_cases n1 : n = 1
    · subst n1
      simp at hr
      subst hr
      go_enter Try.func19, Try.ntmps19
      go_wp2
      go_ret
      exact ⟨rfl, rfl⟩
    · simp [n1] at hr
      subst hr
      have n1' : (n == 1) = false := by simpa using n1
      clear n1
      go_enter Try.func19, Try.ntmps19
      go_wp2
      go_ret
      exact ⟨rfl, rfl⟩
  · by_cases t3 : t = 3
    · subst t3
      by_cases n1 : n = 1
      · subst n1
        simp at hr
        subst hr
        clear t2
        go_enter Try.func19, Try.ntmps19
        go_wp2
        go_ret
        exact ⟨rfl, rfl⟩
      · simp [n1] at hr
        subst hr
        have n1' : (n == 1) = false := by simpa using n1
        clear n1 t2
        go_enter Try.func19, Try.ntmps19
        go_wp2
        go_ret
        exact ⟨rfl, rfl⟩
    · by_cases t5 : t = 5
      · subst t5
        by_cases n1 : n = 1
        · subst n1
          simp at hr
          subst hr
          clear t2 t3
          go_enter Try.func19, Try.ntmps19
          go_wp2
          go_ret
          exact ⟨rfl, rfl⟩
        · by_cases n2 : n = 2
          · subst n2
            simp at hr
            subst hr
            clear t2 t3 n1
            go_enter Try.func19, Try.ntmps19
            go_wp2
            go_ret
            exact ⟨rfl, rfl⟩
          · simp [n1, n2] at hr
            subst hr
            have n1' : (n == 1) = false := by simpa using n1
            have n2' : (n == 2) = false := by simpa using n2
            clear n1 t2 t3 n2
            go_enter Try.func19, Try.ntmps19
            go_wp2
            go_ret
            exact ⟨rfl, rfl⟩
      · simp [t2, t3, t5] at hr
        subst hr
        have t2' : (t == 2) = false := by simpa using t2
        have t3' : (t == 3) = false := by simpa using t3
        have t5' : (t == 5) = false := by simpa using t5
        clear t2 t3 t5
        go_enter Try.func19, Try.ntmps19
        go_wp2
        go_ret
        exact ⟨rfl, rfl⟩
end
end Go.Proofs.Ytjhfomfaddfklaa
