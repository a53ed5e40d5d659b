/-
  Gaps and tokens reach no further than the text. Plain words alone.
-/
import Derived.Test.YtapdhlfgakbebaaDoorStr
namespace Go.Proofs.YtapdhlfgakbebaaDoor
open Go.RowKit
theorem gapA_le : ∀ (f d b i : Nat) (l : List UInt8), b ≤ i → (Lx.gapA f d b i l).1 ≤ i + l.length
  | 0, d, b, i, l, h => by simp [Lx.gapA]
  | f + 1, 0, b, i, l, h => by
    unfold Lx.gapA
    split
    · rename_i hp
      have hl := (List.isPrefixOf_iff_prefix.1 hp).length_le
      have := gapA_le f 1 i (i + 2) (l.drop 2) (by omega)
      rw [List.length_drop] at this
      simp at hl
      omega
    · cases l with
      | nil => simp
      | cons c r =>
        simp only
        split
        · have := gapA_le f 0 b (i + 1) r (by omega)
          simp only [List.length_cons]
          omega
        · simp
  | f + 1, d + 1, b, i, l, h => by
    unfold Lx.gapA
    cases l with
    | nil => simp; omega
    | cons c r =>
      simp only
      split
      · rename_i hp
        have hl := (List.isPrefixOf_iff_prefix.1 hp).length_le
        have := gapA_le f (d + 2) b (i + 2) ((c :: r).drop 2) (by omega)
        rw [List.length_drop] at this
        simp at hl this ⊢
        omega
      · split
        · rename_i hp
          have hl := (List.isPrefixOf_iff_prefix.1 hp).length_le
          have := gapA_le f d b (i + 2) ((c :: r).drop 2) (by omega)
          rw [List.length_drop] at this
          simp at hl this ⊢
          omega
        · have := gapA_le f (d + 1) b (i + 1) r (by omega)
          simp only [List.length_cons]
          omega
theorem gap_le (l : List UInt8) : (Lx.gap l).1 ≤ l.length := by
  have := gapA_le (l.length + 1) 0 0 0 l (by omega)
  unfold Lx.gap
  omega
theorem strA_le : ∀ (f : Nat) (acc : List UInt8) (k : Nat) (l t : List UInt8) (k' : Nat), Lx.strA f acc k l = some (t, k') → k < k' ∧ k' ≤ k + l.length
  | 0, acc, k, l, t, k', h => by simp [Lx.strA] at h
  | f + 1, acc, k, l, t, k', h => by
    unfold Lx.strA at h
    cases l with
    | nil => simp at h
    | cons c r =>
      simp only at h
      split at h
      · simp at h
      · split at h
        · split at h
          · simp at h; simp; omega
          · simp at h
        · split at h
          · cases he : Lx.esc r with
            | none => rw [he] at h; simp at h
            | some p =>
              obtain ⟨b, j⟩ := p
              rw [he] at h
              have hl := esc_len _ _ _ he
              have := strA_le f _ _ _ _ _ h
              rw [List.length_drop] at this
              simp only [List.length_cons]
              omega
          · have := strA_le f _ _ _ _ _ h
            simp only [List.length_cons]
            omega
theorem front_pos {p : UInt8 → Bool} {c : UInt8} {r : List UInt8} (h : p c = true) : 1 ≤ ((c :: r).takeWhile p).length := by simp [h]
theorem signs_pos : ∀ x ∈ Lx.signs, 1 ≤ x.length := by decide
theorem tokSign_le (l : List UInt8) (t : Lx.Tok) (k : Nat) (h : Lx.tokSign l = some (t, k)) : 1 ≤ k ∧ k ≤ l.length := by
  unfold Lx.tokSign at h
  cases hf : Lx.signs.find? (fun s => s.isPrefixOf l) with
  | none => rw [hf] at h; simp at h
  | some x =>
    rw [hf] at h
    simp at h
    obtain ⟨_, rfl⟩ := h
    exact ⟨signs_pos x (List.mem_of_find?_eq_some hf), (List.isPrefixOf_iff_prefix.1 (List.find?_some (p := fun s : List UInt8 => s.isPrefixOf l) hf)).length_le⟩
theorem tokVarAt_le (q : Nat) (l : List UInt8) (t : Lx.Tok) (k : Nat) (hq : 1 ≤ q) (h : Lx.tokVarAt q l = some (t, k)) : 1 ≤ k ∧ k ≤ l.length := by
  unfold Lx.tokVarAt at h
  split at h
  · simp at h
  · rename_i h0
    split at h
    · simp at h
    · simp at h
      obtain ⟨_, rfl⟩ := h
      have h1 := front_le Lx.inVar (l.drop q)
      have h2 := front_le Lx.isSmall (l.drop q)
      rw [List.length_drop] at h1 h2
      omega
theorem tokName_le (g : Bool) (l : List UInt8) (t : Lx.Tok) (k : Nat) (hl : 1 ≤ (l.takeWhile Lx.inName).length) (h : Lx.tokName g l = some (t, k)) : 1 ≤ k ∧ k ≤ l.length := by
  unfold Lx.tokName at h
  split at h
  · simp at h
  · simp at h
    obtain ⟨_, rfl⟩ := h
    exact ⟨hl, front_le _ _⟩
theorem tok_le (l : List UInt8) (t : Lx.Tok) (k : Nat) (h : Lx.tok l = some (t, k)) : 1 ≤ k ∧ k ≤ l.length := by
  cases l with
  | nil => simp [Lx.tok] at h
  | cons c r =>
    unfold Lx.tok at h
    simp only at h
    split at h
    · rename_i hd
      unfold Lx.tokNum at h
      split at h
      · simp at h
      · simp only [Option.some.injEq, Prod.mk.injEq] at h
        obtain ⟨_, rfl⟩ := h
        exact ⟨front_pos hd, front_le _ _⟩
    · split at h
      · rw [tokStr_eq] at h
        cases hs : Lx.strA (c :: r).length [] 1 ((c :: r).drop 1) with
        | none => rw [hs] at h; simp [strTok] at h
        | some p =>
          obtain ⟨t', k'⟩ := p
          rw [hs] at h
          simp [strTok] at h
          obtain ⟨_, rfl⟩ := h
          have := strA_le _ _ _ _ _ _ hs
          simp at this ⊢
          omega
      · split at h
        · unfold Lx.tokVar at h
          split at h
          · exact tokVarAt_le 2 _ _ _ (by omega) h
          · exact tokVarAt_le 1 _ _ _ (by omega) h
        · split at h
          · rename_i hsm
            refine tokName_le _ _ _ _ (front_pos ?_) h
            rw [inName_iff]; have := (isSmall_iff c).1 hsm; omega
          · split at h
            · rename_i hg
              refine tokName_le _ _ _ _ (front_pos ?_) h
              rw [inName_iff]; have := (isGreat_iff c).1 hg; omega
            · split at h
              · rename_i hu
                exact tokName_le _ _ _ _ (Nat.le_of_lt hu.2) h
              · exact tokSign_le _ _ _ h
/-- One step of the row of tokens. -/
theorem toksA_unended (f a : Nat) (l : List UInt8) (hg : (Lx.gap l).2 = false) : Lx.toksA (f + 1) a l = ([], 3, a + (Lx.gap l).1) := by
  show (if (Lx.gap l).2 = false then _ else _) = _
  rw [if_pos hg]
theorem toksA_over (f a : Nat) (l : List UInt8) (hg : (Lx.gap l).2 = true) (hd : l.drop (Lx.gap l).1 = []) : Lx.toksA (f + 1) a l = ([(a + (Lx.gap l).1, ⟨0, [], 0⟩)], 0, 0) := by
  show (if (Lx.gap l).2 = false then _ else if l.drop (Lx.gap l).1 = [] then _ else _) = _
  rw [if_neg (by rw [hg]; decide), if_pos hd]
theorem toksA_none (f a : Nat) (l : List UInt8) (hg : (Lx.gap l).2 = true) (hd : l.drop (Lx.gap l).1 ≠ []) (ht : Lx.tok (l.drop (Lx.gap l).1) = none) : Lx.toksA (f + 1) a l = ([], 3, a + (Lx.gap l).1) := by
  show (if (Lx.gap l).2 = false then _ else if l.drop (Lx.gap l).1 = [] then _ else _) = _
  rw [if_neg (by rw [hg]; decide), if_neg hd, ht]
theorem toksA_some (f a : Nat) (l : List UInt8) (t : Lx.Tok) (k : Nat) (hg : (Lx.gap l).2 = true) (hd : l.drop (Lx.gap l).1 ≠ []) (ht : Lx.tok (l.drop (Lx.gap l).1) = some (t, k)) :
    Lx.toksA (f + 1) a l = ((a + (Lx.gap l).1, t) :: (Lx.toksA f (a + (Lx.gap l).1 + k) (l.drop ((Lx.gap l).1 + k))).1, (Lx.toksA f (a + (Lx.gap l).1 + k) (l.drop ((Lx.gap l).1 + k))).2) := by
  show (if (Lx.gap l).2 = false then _ else if l.drop (Lx.gap l).1 = [] then _ else _) = _
  rw [if_neg (by rw [hg]; decide), if_neg hd, ht]
end Go.Proofs.YtapdhlfgakbebaaDoor
