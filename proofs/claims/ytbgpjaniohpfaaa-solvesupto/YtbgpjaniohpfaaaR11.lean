/-
  Numbers, the least first, put in order in two ways. Plain words.
-/
import Derived.Test.YtbgpjaniohpfaaaP9
import Derived.Test.YtbgpjaniohpfaaaK14
namespace Go.Proofs.Ytbgpjaniohpfaaa
open Go.RowKit
theorem sorted_one : ∀ (l r : List Int), l.Pairwise (· ≤ ·) → r.Pairwise (· ≤ ·) → l.Perm r → l = r
  | [], r, _, _, h => (List.nil_perm.1 h).symm
  | a :: l, [], _, _, h => absurd (List.perm_nil.1 h) (by simp)
  | a :: l, b :: r, hl, hr, h => by
    rw [List.pairwise_cons] at hl hr
    have hab : a = b := by
      have h1 : b ∈ a :: l := h.mem_iff.2 (by simp)
      have h2 : a ∈ b :: r := h.mem_iff.1 (by simp)
      rcases List.mem_cons.1 h1 with e | e
      · exact e.symm
      · rcases List.mem_cons.1 h2 with e2 | e2
        · exact e2
        · have := hl.1 b e
          have := hr.1 a e2
          omega
    subst hab
    rw [sorted_one l r hl.2 hr.2 (List.Perm.cons_inv h)]
theorem put_perm (x : Int) (l : List Int) : (put x l).Perm (x :: l) := by
  unfold put
  rw [List.append_assoc, List.singleton_append]
  refine (List.perm_middle (a := x)).trans ?_
  rw [List.takeWhile_append_dropWhile]
theorem put_sorted (x : Int) : ∀ (l : List Int), l.Pairwise (· ≤ ·) → (put x l).Pairwise (· ≤ ·)
  | [], _ => by simp [put]
  | a :: l, h => by
    have h' := List.pairwise_cons.1 h
    by_cases hx : a < x
    · have e : put x (a :: l) = a :: put x l := by simp [put, hx]
      rw [e, List.pairwise_cons]
      refine ⟨fun y hy => ?_, put_sorted x l h'.2⟩
      rcases List.mem_cons.1 ((put_perm x l).mem_iff.1 hy) with rfl | hy
      · omega
      · exact h'.1 y hy
    · have e : put x (a :: l) = x :: a :: l := by simp [put, hx]
      rw [e, List.pairwise_cons]
      refine ⟨fun y hy => ?_, h⟩
      rcases List.mem_cons.1 hy with rfl | hy
      · omega
      · have := h'.1 y hy
        omega
theorem risingA_perm : ∀ (l o : List Int), (risingA o l).Perm (l ++ o)
  | [], o => List.Perm.refl _
  | x :: l, o => by
    unfold risingA
    refine (risingA_perm l (put x o)).trans ?_
    refine (List.Perm.append_left l (put_perm x o)).trans ?_
    exact List.perm_middle
theorem risingA_sorted : ∀ (l o : List Int), o.Pairwise (· ≤ ·) → (risingA o l).Pairwise (· ≤ ·)
  | [], o, h => h
  | x :: l, o, h => by
    unfold risingA
    exact risingA_sorted l _ (put_sorted x o h)
theorem rising_eq (l : List Int) : rising l = l.mergeSort leI := by
  refine sorted_one _ _ (risingA_sorted l [] List.Pairwise.nil) ?_ ?_
  · have := List.pairwise_mergeSort (le := leI) (fun a b c h1 h2 => by unfold leI at *; simp at *; omega) (fun a b => by unfold leI; simp; omega) l
    refine this.imp fun h => ?_
    unfold leI at h
    simpa using h
  · have h1 := risingA_perm l []
    rw [List.append_nil] at h1
    exact h1.trans (List.mergeSort_perm l leI).symm
end Go.Proofs.Ytbgpjaniohpfaaa
