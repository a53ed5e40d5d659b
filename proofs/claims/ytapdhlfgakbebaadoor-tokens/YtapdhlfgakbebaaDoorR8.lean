import Derived.Test.YtapdhlfgakbebaaDoorR6
namespace Go.Proofs.YtapdhlfgakbebaaDoor
open Go.RowKit
theorem tokVarAt_form (q : Nat) (l : List UInt8) (t : Lx.Tok) (k : Nat) (h : Lx.tokVarAt q l = some (t, k)) : t = ⟨5, l.take k, 0⟩ := by
  unfold Lx.tokVarAt at h
  split at h
  · cases h
  · split at h
    · cases h
    · cases h
      rfl
theorem tokVar_form (l : List UInt8) (t : Lx.Tok) (k : Nat) (h : Lx.tokVar l = some (t, k)) : t = ⟨5, l.take k, 0⟩ ∧ 1 ≤ k ∧ k ≤ l.length := by
  unfold Lx.tokVar at h
  split at h
  · exact ⟨tokVarAt_form 2 l t k h, tokVarAt_le 2 l t k (by omega) h⟩
  · exact ⟨tokVarAt_form 1 l t k h, tokVarAt_le 1 l t k (by omega) h⟩
set_option maxHeartbeats 1000000 in
set_option maxRecDepth 100000 in
theorem tokenRef_var (s : ByteArray) (a : Int) (w : World) (h0 : 0 ≤ a) (h1 : a < s.size) (hs : s.size ≤ 4000) (hl : a.toNat < s.size) (hc : (s[a.toNat]'hl).toNat = 39) :
    Calls Tryd.prog 18 #[.string s, .int .i64 a] w fun e w' => TokEnd a e (Lx.tokVar (s.data.toList.drop a.toNat)) ∧ Below w.heap.size w w' := by
  have hvr := fun w => variable_any s a w h0 h1 hs
  have hform : Hid (∀ t k, Lx.tokVar (s.data.toList.drop a.toNat) = some (t, k) → t = ⟨5, (s.data.toList.drop a.toNat).take k, 0⟩ ∧ 1 ≤ k ∧ k ≤ (s.data.toList.drop a.toNat).length) := fun t k => tokVar_form _ t k
  generalize Lx.tokVar (s.data.toList.drop a.toNat) = R at *
  have Hvr : Hid _ := hvr
  clear hvr
  have hdig : Lx.isDigit (s[a.toNat]'hl) = false := by rw [Bool.eq_false_iff]; intro q; have := (isDigit_iff _).1 q; omega
  have b34 : ((((s[a.toNat]'hl).toNat : Nat) : Int) == 34) = false := by rw [beq_eq_false_iff_ne]; omega
  have b39 : ((((s[a.toNat]'hl).toNat : Nat) : Int) == 39) = true := by rw [beq_iff_eq]; omega
  clear hc
  cases R with
  | none =>
    go_enter Tryd.func18, Tryd.ntmps18
    go_wp2_with (go_at_call 30; refine (digit_any _ _).mono ?_; rintro e w' ⟨rfl, rfl⟩)
    refine (Hvr.out _).mono ?_
    rintro e w1 ⟨rfl, rfl⟩
    simp only [varEnd]
    go_wp2
    refine bodyPost_ret (v := .tuple #[.agg #[.int .i64 0, .int .i64 a, .string { data := #[] }, .int .i64 0], .int .i64 (-1)]) (by simp [results, Tryd.results18, go_sem, *]) rfl ⟨⟨_, _, _, _, rfl⟩, ?_⟩
    exact ((Below.refl _ _).alloc (Nat.le_refl _) _).alloc (by simp) _
  | some p =>
    obtain ⟨t, k⟩ := p
    obtain ⟨rfl, hk1, hk2⟩ := hform.out t k rfl
    rw [drop_len] at hk2
    have hpc : Hid ({ data := (List.take k (List.drop a.toNat s.data.toList)).toArray } = s.extract a.toNat (a + k).toNat) := by
      unfold Hid
      rw [piece, show (a + (k : Int)).toNat - a.toNat = k from by omega]
    go_enter Tryd.func18, Tryd.ntmps18
    go_wp2_with (go_at_call 30; refine (digit_any _ _).mono ?_; rintro e w' ⟨rfl, rfl⟩)
    refine (Hvr.out _).mono ?_
    rintro e w1 ⟨rfl, rfl⟩
    simp only [varEnd]
    have hk3 : a + (k : Int) ≤ s.size := by omega
    go_wp2
    refine bodyPost_ret (v := .tuple #[.agg #[.int .i64 5, .int .i64 a, .string (s.extract a.toNat (a + k).toNat), .int .i64 0], .int .i64 (a + k)]) (by simp [results, Tryd.results18, go_sem, *]) rfl ⟨?_, ?_⟩
    · simp only [TokEnd]
      rw [hpc.out]
      rfl
    · exact ((Below.refl _ _).alloc (Nat.le_refl _) _).alloc (by simp) _
end Go.Proofs.YtapdhlfgakbebaaDoor
