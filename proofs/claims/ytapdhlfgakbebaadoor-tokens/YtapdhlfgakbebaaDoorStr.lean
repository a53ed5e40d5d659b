/-
  How a string is read, step by step: what is known at each label of readString. Plain words alone.
-/
import Derived.Test.YtapdhlfgakbebaaDoorW9
namespace Go.Proofs.YtapdhlfgakbebaaDoor
open Go.RowKit
/-- At label l: 'i' the place, 'k' how far from the first quote, 'acc' what has been said; R: what comes of it. -/
def StrState (s : ByteArray) (A : Int) (R : Option (List UInt8 × Nat)) : Nat → Int → Nat → List UInt8 → Prop
  | 0, _, _, _ => R = none
  | 1, i, k, acc => 0 ≤ i ∧ i ≤ s.size ∧ i = A + k ∧ acc.length ≤ k ∧ ∃ f, s.size - i.toNat < f ∧ Lx.strA f acc k (s.data.toList.drop i.toNat) = R
  | 2, i, k, acc => 0 ≤ i ∧ i < s.size ∧ i = A + k ∧ acc.length ≤ k ∧ R = (if acc.length ≤ 200 then some (acc, k + 1) else none)
  | 3, i, k, acc => 0 ≤ i ∧ i < s.size ∧ i = A + k ∧ acc.length ≤ k ∧ ∃ f, s.size - (i + 1).toNat < f ∧ R = (match Lx.esc (s.data.toList.drop (i + 1).toNat) with
      | none => none
      | some (b, j) => Lx.strA f (acc ++ [b]) (k + 1 + j) (s.data.toList.drop ((i + 1).toNat + j)))
  | _, _, _, _ => False
def strTok : Option (List UInt8 × Nat) → Option (Lx.Tok × Nat)
  | none => none
  | some (t, k) => some (⟨2, t, 0⟩, k)
theorem tokStr_eq (l : List UInt8) : Lx.tokStr l = strTok (Lx.strA l.length [] 1 (l.drop 1)) := by
  unfold Lx.tokStr strTok
  rfl
theorem esc_len (l : List UInt8) (b : UInt8) (j : Nat) (h : Lx.esc l = some (b, j)) : 1 ≤ j ∧ j ≤ l.length := by
  cases l with
  | nil => simp [Lx.esc] at h
  | cons c r =>
    unfold Lx.esc at h
    simp only at h
    repeat' split at h
    all_goals (try simp at h)
    all_goals (try simp only [List.length_cons])
    all_goals omega
variable {s : ByteArray} {A : Int} {R : Option (List UInt8 × Nat)} {i : Int} {k : Nat} {acc : List UInt8}
theorem st_end (h : StrState s A R 1 i k acc) (hi : (s.size : Int) ≤ i) : R = none := by
  obtain ⟨h0, h1, h2, h3, f, hf, hR⟩ := h
  rw [drop_end s _ (by omega)] at hR
  obtain ⟨f', rfl⟩ : ∃ f', f = f' + 1 := ⟨f - 1, by omega⟩
  simpa [Lx.strA] using hR.symm
theorem st_step (h : StrState s A R 1 i k acc) (hi : i.toNat < s.size) : ∃ f, s.size - (i.toNat + 1) < f ∧
    (if s[i.toNat] < 32 then none
      else if s[i.toNat] = 34 then (if acc.length ≤ 200 then some (acc, k + 1) else none)
      else if s[i.toNat] = 92 then
        (match Lx.esc (s.data.toList.drop (i.toNat + 1)) with
        | none => none
        | some (b, j) => Lx.strA f (acc ++ [b]) (k + 1 + j) ((s.data.toList.drop (i.toNat + 1)).drop j))
      else Lx.strA f (acc ++ [s[i.toNat]]) (k + 1) (s.data.toList.drop (i.toNat + 1))) = R := by
  obtain ⟨h0, h1, h2, h3, f, hf, hR⟩ := h
  rw [drop_at s _ hi] at hR
  obtain ⟨f', rfl⟩ : ∃ f', f = f' + 1 := ⟨f - 1, by omega⟩
  exact ⟨f', by omega, hR⟩
theorem st_ctl (h : StrState s A R 1 i k acc) (hi : i.toNat < s.size) (hc : (s[i.toNat]).toNat < 32) : R = none := by
  obtain ⟨f, hf, hR⟩ := st_step h hi
  rw [if_pos (UInt8.lt_iff_toNat_lt.2 (by simpa using hc))] at hR
  exact hR.symm
theorem st_quote (h : StrState s A R 1 i k acc) (hi : i.toNat < s.size) (hc : (s[i.toNat]).toNat = 34) : StrState s A R 2 i k acc := by
  obtain ⟨f, hf, hR⟩ := st_step h hi
  obtain ⟨h0, h1, h2, h3, _⟩ := h
  have e : s[i.toNat] = 34 := UInt8.toNat_inj.1 hc
  rw [e, if_neg (by decide), if_pos rfl] at hR
  exact ⟨h0, by omega, h2, h3, hR.symm⟩
theorem st_back (h : StrState s A R 1 i k acc) (hi : i.toNat < s.size) (hc : (s[i.toNat]).toNat = 92) : StrState s A R 3 i k acc := by
  obtain ⟨f, hf, hR⟩ := st_step h hi
  obtain ⟨h0, h1, h2, h3, _⟩ := h
  have e : s[i.toNat] = 92 := UInt8.toNat_inj.1 hc
  rw [e, if_neg (by decide), if_neg (by decide), if_pos rfl] at hR
  refine ⟨h0, by omega, h2, h3, f, by omega, ?_⟩
  rw [show (i + 1).toNat = i.toNat + 1 from by omega, ← hR]
  simp only [List.drop_drop]
theorem st_char (h : StrState s A R 1 i k acc) (hi : i.toNat < s.size) (h1' : ¬ (s[i.toNat]).toNat < 32) (h2' : (s[i.toNat]).toNat ≠ 34) (h3' : (s[i.toNat]).toNat ≠ 92) : StrState s A R 1 (i + 1) (k + 1) (acc ++ [s[i.toNat]]) := by
  obtain ⟨f, hf, hR⟩ := st_step h hi
  obtain ⟨h0, h1, h2, h3, _⟩ := h
  rw [if_neg (fun e => h1' (by simpa using UInt8.lt_iff_toNat_lt.1 e)), if_neg (fun e => h2' (by rw [e]; rfl)), if_neg (fun e => h3' (by rw [e]; rfl))] at hR
  exact ⟨by omega, by omega, by omega, by simp; omega, f, by omega, by rw [show (i + 1).toNat = i.toNat + 1 from by omega]; exact hR⟩
theorem st_esc_none (h : StrState s A R 3 i k acc) (he : Lx.esc (s.data.toList.drop (i + 1).toNat) = none) : R = none := by
  obtain ⟨h0, h1, h2, h3, f, hf, hR⟩ := h
  rw [he] at hR
  exact hR
theorem st_esc_some (h : StrState s A R 3 i k acc) {b : UInt8} {j : Nat} (he : Lx.esc (s.data.toList.drop (i + 1).toNat) = some (b, j)) : StrState s A R 1 (i + 1 + j) (k + 1 + j) (acc ++ [b]) := by
  obtain ⟨h0, h1, h2, h3, f, hf, hR⟩ := h
  have hl := esc_len _ _ _ he
  rw [List.length_drop, ← Lib.size_eq] at hl
  rw [he] at hR
  exact ⟨by omega, by omega, by omega, by simp; omega, f, by omega, by rw [show (i + 1 + (j : Int)).toNat = (i + 1).toNat + j from by omega]; exact hR.symm⟩
theorem st_first (s : ByteArray) (A : Int) (h0 : 0 ≤ A) (h1 : A < s.size) : StrState s A (Lx.strA (s.data.toList.drop A.toNat).length [] 1 ((s.data.toList.drop A.toNat).drop 1)) 1 (A + 1) 1 [] := by
  refine ⟨by omega, by omega, by omega, by simp, (s.data.toList.drop A.toNat).length, ?_, ?_⟩
  · rw [List.length_drop, ← Lib.size_eq]; omega
  · rw [List.drop_drop, show (A + 1).toNat = A.toNat + 1 from by omega]
end Go.Proofs.YtapdhlfgakbebaaDoor
