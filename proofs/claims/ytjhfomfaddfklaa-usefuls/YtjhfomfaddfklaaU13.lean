/-
  The document's layer matches in plain words: what Useful answers; of rows that may be.
-/
import Derived.Test.YtjhfomfaddfklaaU12
namespace Go.Proofs.Ytjhfomfaddfklaa
open Go.RowKit Go.Deep
theorem properL_pos {l : List Pt} {left : Int} (h : 0 ≤ properL l left) : 0 ≤ left := by
  cases l with
  | nil => rw [properL] at h; exact h
  | cons x r =>
    rw [properL] at h
    split at h
    · assumption
    · exact h
mutual
theorem proper_good : ∀ (p : Pt) (left : Int), left ≤ 1000 → 0 ≤ properP p left → p.good = true ∧ (p.cons : Int) + properP p left ≤ left ∧ 1 + properP p left ≤ left
  | .mk k n o a s kids, left, hl, h => by
    rw [properP] at h ⊢
    split at h
    · rename_i hok
      rw [if_pos hok]
      obtain ⟨h1, h2, h3⟩ := properL_good kids (left - 1) (by omega) h
      refine ⟨?_, ?_, by omega⟩
      · rw [Pt.good, hok, h1]
        have : kids.length ≤ 1000 := by omega
        simp [this]
      · rw [Pt.cons]
        split <;> omega
    · omega
theorem properL_good : ∀ (l : List Pt) (left : Int), left ≤ 1000 → 0 ≤ properL l left → Pt.goodL l = true ∧ (Pt.consL l : Int) + properL l left ≤ left ∧ (l.length : Int) + properL l left ≤ left
  | [], left, _, h => by
    rw [properL, Pt.goodL, Pt.consL]
    simp
  | x :: r, left, hl, h => by
    have h0 := properL_pos h
    rw [properL, if_pos h0] at h ⊢
    have hx0 := properL_pos h
    obtain ⟨a1, a2, a3⟩ := proper_good x left hl hx0
    obtain ⟨b1, b2, b3⟩ := properL_good r (properP x left) (by omega) h
    refine ⟨by rw [Pt.goodL, a1, b1]; rfl, ?_, ?_⟩
    · rw [Pt.consL]
      omega
    · simp only [List.length_cons]
      omega
end
def rowLeft (len : Nat) (r : List Pt) (left : Int) : Int := properL r (if r.length = len then left else -1)
/-- The first row that may not be. -/
def argFrom (len : Nat) : List (List Pt) → Nat → Int → Option Nat
  | [], _, _ => none
  | r :: rs, i, left => if rowLeft len r left < 0 then some i else argFrom len rs (i + 1) (rowLeft len r left)
/-- What Useful answers. -/
def usefulAns (m : List (List Pt)) (q : List Pt) : Bool × Int × Int := match argFrom q.length (m ++ [q]) 0 150 with
  | some i => (false, 21, (i : Int))
  | none => (usefulF 151 m q, 0, 0)
theorem row_good {len : Nat} {r : List Pt} {left : Int} (hl : left ≤ 1000) (h : 0 ≤ rowLeft len r left) : r.length = len ∧ (∀ x ∈ r, x.good = true) ∧ (Pt.consL r : Int) + rowLeft len r left ≤ left ∧ (r.length : Int) + rowLeft len r left ≤ left := by
  unfold rowLeft at *
  split at h
  · rename_i he
    rw [if_pos he]
    obtain ⟨h1, h2, h3⟩ := properL_good r left hl h
    exact ⟨he, Pt.goodL_mem.1 h1, h2, h3⟩
  · have := properL_pos h
    omega
theorem arg_none {len : Nat} : ∀ (rs : List (List Pt)) (i : Nat) (left : Int), left ≤ 1000 → argFrom len rs i left = none → (∀ r ∈ rs, r.length = len ∧ ∀ x ∈ r, x.good = true) ∧ ((consM rs : Int) ≤ left ∨ rs = []) ∧ ((rs.length * len : Nat) : Int) ≤ left ∨ rs = []
  | [], _, _, _, _ => Or.inr rfl
  | r :: rs, i, left, hl, h => by
    rw [argFrom] at h
    split at h
    · cases h
    · rename_i hn
      obtain ⟨g1, g2, g3, g4⟩ := row_good (len := len) (r := r) (left := left) hl (by omega)
      left
      rcases arg_none rs (i + 1) (rowLeft len r left) (by omega) h with ⟨k1, k2, k3⟩ | rfl
      · refine ⟨fun s hs => ?_, Or.inl ?_, ?_⟩
        · rcases List.mem_cons.1 hs with rfl | hs
          · exact ⟨g1, g2⟩
          · exact k1 s hs
        · rcases k2 with k2 | rfl
          · simp only [consM]; omega
          · simp only [consM]; omega
        · rw [List.length_cons, Nat.add_mul, Nat.one_mul]
          omega
      · refine ⟨fun s hs => ?_, Or.inl ?_, ?_⟩
        · obtain rfl : s = r := by simpa using hs
          exact ⟨g1, g2⟩
        · simp only [consM]; omega
        · simp; omega
/-- Rows that may be are as they have to be. -/
theorem arg_rect {m : List (List Pt)} {q : List Pt} (h : argFrom q.length (m ++ [q]) 0 150 = none) (hq : q ≠ []) : Rect m q.length ∧ (∀ x ∈ q, x.good = true) ∧ consM m + Pt.consL q < 151 ∧ q.length ≤ 150 := by
  rcases arg_none (m ++ [q]) 0 150 (by omega) h with ⟨h1, h2, h3⟩ | h
  · have hlen : 0 < q.length := List.length_pos_iff.2 hq
    have hmul : (m ++ [q]).length ≤ (m ++ [q]).length * q.length := Nat.le_mul_of_pos_right _ hlen
    have hmul2 : q.length ≤ (m ++ [q]).length * q.length := Nat.le_mul_of_pos_left _ (by simp)
    simp only [List.length_append, List.length_cons, List.length_nil] at *
    refine ⟨⟨by omega, fun r hr => h1 r (by simp [hr])⟩, (h1 q (by simp)).2, ?_, by omega⟩
    rcases h2 with h2 | h2
    · rw [consM_app] at h2
      simp only [consM] at h2
      omega
    · simp at h2
  · simp at h
end Go.Proofs.Ytjhfomfaddfklaa
