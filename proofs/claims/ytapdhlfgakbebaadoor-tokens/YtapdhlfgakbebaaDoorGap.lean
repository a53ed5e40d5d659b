/-
  How blanks and comments are gone over, step by step: what is known at each label of skip. Plain words alone.
-/
import Derived.Test.YtapdhlfgakbebaaDoorW10
namespace Go.Proofs.YtapdhlfgakbebaaDoor
open Go.RowKit
/-- At label l: 'i' the place, 'b' where the outermost comment began, 'd' how deep; G: what comes of it. -/
def GapState (s : ByteArray) (A : Int) (G : Nat × Bool) : Nat → Int → Int → Int → Prop
  | 0, i, _, d => 0 ≤ i ∧ i ≤ s.size ∧ d = 0 ∧ ∃ f bb k, i = A + (k : Nat) ∧ s.size - i.toNat < f ∧ Lx.gapA f 0 bb k (s.data.toList.drop i.toNat) = G
  | 1, i, b, d => 0 ≤ i ∧ i + 2 ≤ s.size ∧ (0 ≤ d ∧ d ≤ i) ∧ ∃ f bb k, b = A + (bb : Nat) ∧ i = A + (k : Nat) ∧ s.size - (i + 2).toNat < f ∧ Lx.gapA f (d + 1).toNat bb (k + 2) (s.data.toList.drop (i + 2).toNat) = G
  | 2, i, b, d => 0 ≤ i ∧ i + 2 ≤ s.size ∧ (1 ≤ d ∧ d ≤ i) ∧ ∃ f bb k, b = A + (bb : Nat) ∧ i = A + (k : Nat) ∧ s.size - (i + 2).toNat < f ∧ Lx.gapA f (d - 1).toNat bb (k + 2) (s.data.toList.drop (i + 2).toNat) = G
  | 3, i, b, d => 0 ≤ i ∧ i ≤ s.size ∧ (1 ≤ d ∧ d ≤ i) ∧ ∃ f bb k, b = A + (bb : Nat) ∧ i = A + (k : Nat) ∧ s.size - i.toNat < f ∧ Lx.gapA f d.toNat bb k (s.data.toList.drop i.toNat) = G
  | _, _, _, _ => False
theorem gapA_blanks : ∀ (l : List UInt8) (f bb k : Nat), l.length < f → Lx.gapA f 0 bb k l = Lx.gapA (f - (l.takeWhile Lx.isBlank).length) 0 bb (k + (l.takeWhile Lx.isBlank).length) (l.drop (l.takeWhile Lx.isBlank).length)
  | [], f, bb, k, h => by simp
  | c :: r, f, bb, k, h => by
    cases hc : Lx.isBlank c
    · simp [hc]
    · obtain ⟨f', rfl⟩ : ∃ f', f = f' + 1 := ⟨f - 1, by omega⟩
      have ih := gapA_blanks r f' bb (k + 1) (by simpa using h)
      have hp : [40, 42].isPrefixOf (c :: r) = false := by
        have : c ≠ 40 := by intro e; rw [e] at hc; exact absurd hc (by decide)
        simp [List.isPrefixOf, Ne.symm this]
      have e : Lx.gapA (f' + 1) 0 bb k (c :: r) = Lx.gapA f' 0 bb (k + 1) r := by
        show (if [40, 42].isPrefixOf (c :: r) = true then _ else _) = _
        rw [hp]
        show (if Lx.isBlank c = true then _ else _) = _
        rw [hc]
        rfl
      rw [e, ih]
      simp only [List.takeWhile_cons, hc, if_true, List.length_cons, List.drop_succ_cons]
      rw [show f' + 1 - ((r.takeWhile Lx.isBlank).length + 1) = f' - (r.takeWhile Lx.isBlank).length from by omega, show k + 1 + (r.takeWhile Lx.isBlank).length = k + ((r.takeWhile Lx.isBlank).length + 1) from by omega]
theorem behind_front {p : UInt8 → Bool} : ∀ (l : List UInt8), l.drop (l.takeWhile p).length = [] ∨ ∃ c r, l.drop (l.takeWhile p).length = c :: r ∧ p c = false
  | [] => Or.inl (by simp)
  | c :: r => by
    cases hc : p c
    · exact Or.inr ⟨c, r, by simp [hc], hc⟩
    · simp only [List.takeWhile_cons, hc, if_true, List.length_cons, List.drop_succ_cons]
      exact behind_front r
variable {s : ByteArray} {A : Int} {G : Nat × Bool} {i b d : Int}
/-- Behind the blanks: no comment begins there. -/
theorem gp_stop (h : GapState s A G 0 i b d) (hp : [40, 42].isPrefixOf (s.data.toList.drop (i + (((s.data.toList.drop i.toNat).takeWhile Lx.isBlank).length : Nat)).toNat) = false) : G.2 = true ∧ A + (G.1 : Int) = i + (((s.data.toList.drop i.toNat).takeWhile Lx.isBlank).length : Nat) := by
  obtain ⟨h0, h1, h2, f, bb, k, hk, hf, hG⟩ := h
  rw [gapA_blanks _ f bb k (by rw [drop_len]; omega)] at hG
  have hfl := front_le Lx.isBlank (s.data.toList.drop i.toNat)
  rw [drop_len] at hfl
  have hbf := behind_front (p := Lx.isBlank) (s.data.toList.drop i.toNat)
  rw [List.drop_drop] at hG hbf
  generalize ((s.data.toList.drop i.toNat).takeWhile Lx.isBlank).length = n at *
  rw [show (i + (n : Int)).toNat = i.toNat + n from by omega] at hp
  obtain ⟨f', hf'⟩ : ∃ f', f - n = f' + 1 := ⟨f - n - 1, by omega⟩
  rw [hf'] at hG
  have e : Lx.gapA (f' + 1) 0 bb (k + n) (s.data.toList.drop (i.toNat + n)) = (k + n, true) := by
    rcases hbf with hb | ⟨c, r, hb, hc⟩
    · rw [hb]; rfl
    · rw [hb] at hp ⊢
      show (if [40, 42].isPrefixOf (c :: r) = true then _ else _) = _
      rw [hp]
      show (if Lx.isBlank c = true then _ else _) = _
      rw [hc]
      rfl
  rw [e] at hG
  rw [← hG]
  exact ⟨rfl, by simp; omega⟩
/-- Behind the blanks a comment begins. -/
theorem gp_begin (h : GapState s A G 0 i b d) (hp : [40, 42].isPrefixOf (s.data.toList.drop (i + (((s.data.toList.drop i.toNat).takeWhile Lx.isBlank).length : Nat)).toNat) = true) :
    GapState s A G 1 (i + (((s.data.toList.drop i.toNat).takeWhile Lx.isBlank).length : Nat)) (i + (((s.data.toList.drop i.toNat).takeWhile Lx.isBlank).length : Nat)) 0 := by
  obtain ⟨h0, h1, h2, f, bb, k, hk, hf, hG⟩ := h
  rw [gapA_blanks _ f bb k (by rw [drop_len]; omega)] at hG
  have hfl := front_le Lx.isBlank (s.data.toList.drop i.toNat)
  rw [drop_len] at hfl
  rw [List.drop_drop] at hG
  generalize ((s.data.toList.drop i.toNat).takeWhile Lx.isBlank).length = n at *
  have hl := (List.isPrefixOf_iff_prefix.1 hp).length_le
  rw [drop_len] at hl
  simp at hl
  rw [show (i + (n : Int)).toNat = i.toNat + n from by omega] at hp
  obtain ⟨f', hf'⟩ : ∃ f', f - n = f' + 1 := ⟨f - n - 1, by omega⟩
  rw [hf'] at hG
  have e : Lx.gapA (f' + 1) 0 bb (k + n) (s.data.toList.drop (i.toNat + n)) = Lx.gapA f' 1 (k + n) (k + n + 2) ((s.data.toList.drop (i.toNat + n)).drop 2) := by
    show (if [40, 42].isPrefixOf (s.data.toList.drop (i.toNat + n)) = true then _ else _) = _
    rw [hp]
    rfl
  rw [e, List.drop_drop] at hG
  exact ⟨by omega, by omega, by omega, f', k + n, k + n, by omega, by omega, by omega, by rw [show (i + (n : Int) + 2).toNat = i.toNat + n + 2 from by omega]; exact hG⟩
theorem gp_opened (h : GapState s A G 1 i b d) : GapState s A G 3 (i + 2) b (d + 1) := by
  obtain ⟨h0, h1, h2, f, bb, k, hb, hk, hf, hG⟩ := h
  exact ⟨by omega, by omega, by omega, f, bb, k + 2, hb, by omega, hf, hG⟩
theorem gp_end (h : GapState s A G 3 i b d) (hi : (s.size : Int) ≤ i) : G.2 = false ∧ A + (G.1 : Int) = b := by
  obtain ⟨h0, h1, h2, f, bb, k, hb, hk, hf, hG⟩ := h
  rw [drop_end s _ (by omega)] at hG
  obtain ⟨f', rfl⟩ : ∃ f', f = f' + 1 := ⟨f - 1, by omega⟩
  obtain ⟨D, hD⟩ : ∃ D, d.toNat = D + 1 := ⟨d.toNat - 1, by omega⟩
  rw [hD] at hG
  have e : Lx.gapA (f' + 1) (D + 1) bb k [] = (bb, false) := rfl
  rw [e] at hG
  rw [← hG]
  exact ⟨rfl, hb.symm⟩
theorem gp_in (h : GapState s A G 3 i b d) (hi : i.toNat < s.size) : ∃ f bb k, b = A + (bb : Nat) ∧ i = A + (k : Nat) ∧ s.size - i.toNat - 1 < f ∧
    (if [40, 42].isPrefixOf (s.data.toList.drop i.toNat) = true then Lx.gapA f (d + 1).toNat bb (k + 2) (s.data.toList.drop (i.toNat + 2))
     else if [42, 41].isPrefixOf (s.data.toList.drop i.toNat) = true then Lx.gapA f (d - 1).toNat bb (k + 2) (s.data.toList.drop (i.toNat + 2))
     else Lx.gapA f d.toNat bb (k + 1) (s.data.toList.drop (i.toNat + 1))) = G := by
  obtain ⟨h0, h1, h2, f, bb, k, hb, hk, hf, hG⟩ := h
  obtain ⟨f', rfl⟩ : ∃ f', f = f' + 1 := ⟨f - 1, by omega⟩
  obtain ⟨D, hD⟩ : ∃ D, d.toNat = D + 1 := ⟨d.toNat - 1, by omega⟩
  refine ⟨f', bb, k, hb, hk, by omega, ?_⟩
  rw [← List.drop_drop, show (d + 1).toNat = D + 2 from by omega, show (d - 1).toNat = D from by omega, hD]
  rw [hD, drop_at s _ hi] at hG
  rw [drop_at s _ hi]
  exact hG
theorem gp_open (h : GapState s A G 3 i b d) (hi : i.toNat < s.size) (hp : [40, 42].isPrefixOf (s.data.toList.drop i.toNat) = true) : GapState s A G 1 i b d := by
  obtain ⟨f, bb, k, hb, hk, hf, hG⟩ := gp_in h hi
  obtain ⟨h0, h1, h2, _⟩ := h
  have hl := (List.isPrefixOf_iff_prefix.1 hp).length_le
  rw [drop_len] at hl
  simp at hl
  rw [if_pos hp] at hG
  exact ⟨by omega, by omega, by omega, f, bb, k, hb, hk, by omega, by rw [show (i + 2).toNat = i.toNat + 2 from by omega]; exact hG⟩
theorem gp_close (h : GapState s A G 3 i b d) (hi : i.toNat < s.size) (hp : [40, 42].isPrefixOf (s.data.toList.drop i.toNat) = false) (hq : [42, 41].isPrefixOf (s.data.toList.drop i.toNat) = true) : GapState s A G 2 i b d := by
  obtain ⟨f, bb, k, hb, hk, hf, hG⟩ := gp_in h hi
  obtain ⟨h0, h1, h2, _⟩ := h
  have hl := (List.isPrefixOf_iff_prefix.1 hq).length_le
  rw [drop_len] at hl
  simp at hl
  rw [hp, hq] at hG
  exact ⟨by omega, by omega, by omega, f, bb, k, hb, hk, by omega, by rw [show (i + 2).toNat = i.toNat + 2 from by omega]; exact hG⟩
theorem gp_on (h : GapState s A G 3 i b d) (hi : i.toNat < s.size) (hp : [40, 42].isPrefixOf (s.data.toList.drop i.toNat) = false) (hq : [42, 41].isPrefixOf (s.data.toList.drop i.toNat) = false) : GapState s A G 3 (i + 1) b d := by
  obtain ⟨f, bb, k, hb, hk, hf, hG⟩ := gp_in h hi
  obtain ⟨h0, h1, h2, _⟩ := h
  rw [hp, hq] at hG
  exact ⟨by omega, by omega, by omega, f, bb, k + 1, hb, by omega, by omega, by rw [show (i + 1).toNat = i.toNat + 1 from by omega]; exact hG⟩
theorem gp_inner (h : GapState s A G 2 i b d) (hd : 0 < d - 1) : GapState s A G 3 (i + 2) b (d - 1) := by
  obtain ⟨h0, h1, h2, f, bb, k, hb, hk, hf, hG⟩ := h
  exact ⟨by omega, by omega, by omega, f, bb, k + 2, hb, by omega, hf, hG⟩
theorem gp_outer (h : GapState s A G 2 i b d) (hd : ¬ 0 < d - 1) : GapState s A G 0 (i + 2) b (d - 1) := by
  obtain ⟨h0, h1, h2, f, bb, k, hb, hk, hf, hG⟩ := h
  refine ⟨by omega, by omega, by omega, f, bb, k + 2, by omega, hf, ?_⟩
  rw [show (d - 1).toNat = 0 from by omega] at hG
  exact hG
theorem gp_first (s : ByteArray) (A : Int) (h0 : 0 ≤ A) (h1 : A ≤ s.size) (b : Int) : GapState s A (Lx.gap (s.data.toList.drop A.toNat)) 0 A b 0 := by
  refine ⟨h0, h1, rfl, (s.data.toList.drop A.toNat).length + 1, 0, 0, by omega, ?_, rfl⟩
  rw [drop_len]
  omega
end Go.Proofs.YtapdhlfgakbebaaDoor
