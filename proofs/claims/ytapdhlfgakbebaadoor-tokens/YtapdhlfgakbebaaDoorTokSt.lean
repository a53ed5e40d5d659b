/-
  How the row of tokens is read, step by step: what is known at the head of the loop of Tokens. Plain words alone.
-/
import Derived.Test.YtapdhlfgakbebaaDoorLen
namespace Go.Proofs.YtapdhlfgakbebaaDoor
open Go.RowKit
def TokState (s : ByteArray) (T : List (Nat × Lx.Tok) × Nat × Nat) (ts : List (Nat × Lx.Tok)) (x : Int) (ok : Bool) : Prop :=
  ∃ p f : Nat, p ≤ s.size ∧ s.size - p < f ∧ ts.length ≤ p ∧ x = ((p + (Lx.gap (s.data.toList.drop p)).1 : Nat) : Int) ∧ ok = (Lx.gap (s.data.toList.drop p)).2 ∧ T = (ts ++ (Lx.toksA f p (s.data.toList.drop p)).1, (Lx.toksA f p (s.data.toList.drop p)).2)
variable {s : ByteArray} {T : List (Nat × Lx.Tok) × Nat × Nat} {ts : List (Nat × Lx.Tok)} {x : Int} {ok : Bool}
theorem tk_first (s : ByteArray) : TokState s (Lx.toksA (s.data.toList.length + 1) 0 s.data.toList) [] ((Lx.gap s.data.toList).1 : Nat) (Lx.gap s.data.toList).2 :=
  ⟨0, s.data.toList.length + 1, by omega, by rw [← Lib.size_eq]; omega, by simp, by simp, by simp, by simp⟩
theorem tk_bounds (h : TokState s T ts x ok) : 0 ≤ x ∧ x ≤ s.size ∧ ts.length ≤ s.size := by
  obtain ⟨p, f, hp, hf, hl, hx, hok, hT⟩ := h
  have := gap_le (s.data.toList.drop p)
  rw [drop_len] at this
  omega
theorem tk_unended (h : TokState s T ts x false) : T = (ts, 3, x.toNat) := by
  obtain ⟨p, f, hp, hf, hl, hx, hok, hT⟩ := h
  obtain ⟨f', rfl⟩ : ∃ f', f = f' + 1 := ⟨f - 1, by omega⟩
  rw [toksA_unended _ _ _ hok.symm] at hT
  rw [hT, hx]
  simp
  omega
theorem tk_over (h : TokState s T ts x true) (hx : (s.size : Int) ≤ x) : T = (ts ++ [(x.toNat, ⟨0, [], 0⟩)], 0, 0) := by
  obtain ⟨p, f, hp, hf, hl, hxx, hok, hT⟩ := h
  obtain ⟨f', rfl⟩ : ∃ f', f = f' + 1 := ⟨f - 1, by omega⟩
  rw [toksA_over _ _ _ hok.symm (by rw [List.drop_drop]; exact drop_end s _ (by omega))] at hT
  rw [hT, hxx]
  simp
  omega
theorem tk_rest (h : TokState s T ts x true) (hx : x.toNat < s.size) : ∃ p f, p ≤ s.size ∧ s.size - p < f + 1 ∧ ts.length ≤ p ∧ x = ((p + (Lx.gap (s.data.toList.drop p)).1 : Nat) : Int) ∧ (Lx.gap (s.data.toList.drop p)).2 = true ∧
    (s.data.toList.drop p).drop (Lx.gap (s.data.toList.drop p)).1 = s.data.toList.drop x.toNat ∧ s.data.toList.drop x.toNat ≠ [] ∧ T = (ts ++ (Lx.toksA (f + 1) p (s.data.toList.drop p)).1, (Lx.toksA (f + 1) p (s.data.toList.drop p)).2) := by
  obtain ⟨p, f, hp, hf, hl, hxx, hok, hT⟩ := h
  obtain ⟨f', rfl⟩ : ∃ f', f = f' + 1 := ⟨f - 1, by omega⟩
  refine ⟨p, f', hp, hf, hl, hxx, hok.symm, ?_, ?_, hT⟩
  · rw [List.drop_drop, show x.toNat = p + (Lx.gap (s.data.toList.drop p)).1 from by omega]
  · rw [drop_at s _ hx]; simp
theorem tk_none (h : TokState s T ts x true) (hx : x.toNat < s.size) (ht : Lx.tok (s.data.toList.drop x.toNat) = none) : T = (ts, 3, x.toNat) := by
  obtain ⟨p, f, hp, hf, hl, hxx, hok, hd, hne, hT⟩ := tk_rest h hx
  rw [toksA_none _ _ _ hok (by rw [hd]; exact hne) (by rw [hd]; exact ht)] at hT
  rw [hT, hxx]
  simp
  omega
theorem tk_some (h : TokState s T ts x true) (hx : x.toNat < s.size) {t : Lx.Tok} {k : Nat} (ht : Lx.tok (s.data.toList.drop x.toNat) = some (t, k)) :
    1 ≤ k ∧ x + k ≤ s.size ∧ TokState s T (ts ++ [(x.toNat, t)]) (x + k + ((Lx.gap (s.data.toList.drop (x + k).toNat)).1 : Nat)) (Lx.gap (s.data.toList.drop (x + k).toNat)).2 := by
  obtain ⟨p, f, hp, hf, hl, hxx, hok, hd, hne, hT⟩ := tk_rest h hx
  have hk := tok_le _ _ _ ht
  rw [drop_len] at hk
  rw [toksA_some _ _ _ t k hok (by rw [hd]; exact hne) (by rw [hd]; exact ht)] at hT
  have e : (s.data.toList.drop p).drop ((Lx.gap (s.data.toList.drop p)).1 + k) = s.data.toList.drop (x + k).toNat := by
    rw [List.drop_drop, show (x + (k : Int)).toNat = p + ((Lx.gap (s.data.toList.drop p)).1 + k) from by omega]
  rw [e] at hT
  have e2 : p + (Lx.gap (s.data.toList.drop p)).1 + k = (x + k).toNat := by omega
  have e3 : p + (Lx.gap (s.data.toList.drop p)).1 = x.toNat := by omega
  rw [e2, e3] at hT
  refine ⟨hk.1, by omega, (x + k).toNat, f, by omega, by omega, ?_, ?_, rfl, ?_⟩
  · simp; omega
  · omega
  · rw [hT]; simp
end Go.Proofs.YtapdhlfgakbebaaDoor
