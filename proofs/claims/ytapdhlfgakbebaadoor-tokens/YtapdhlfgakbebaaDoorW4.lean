/-
  The walk of readVariable: a type variable, or none, as the plain words say; nothing old changes.
-/
import Derived.Test.YtapdhlfgakbebaaDoorW3
import Derived.Test.YtapdhlfgakbebaaDoorSets
namespace Go.Proofs.YtapdhlfgakbebaaDoor
open Go.RowKit
theorem front_le (p : UInt8 → Bool) (l : List UInt8) : (l.takeWhile p).length ≤ l.length := List.Sublist.length_le (List.takeWhile_sublist p)
theorem drop_len (s : ByteArray) (k : Nat) : (s.data.toList.drop k).length = s.size - k := by rw [List.length_drop, ← Lib.size_eq]
theorem hasPrefixAt (s p : ByteArray) (k : Nat) (w : World) :
    Calls Tryd.prog 20 #[.string (s.extract k s.size), .string p] w fun e w' => e = .returned (.bool (p.data.toList.isPrefixOf (s.data.toList.drop k))) ∧ w' = w := by
  have h := hasPrefix_any (s.extract k s.size) p w
  rw [Lib.extract_to_end] at h
  exact h
/-- What a reader of a token answers: the token and the place behind it, or nothing and -1. -/
def tokVal (a : Int) : Option (Lx.Tok × Nat) → Value
  | none => .tuple #[.agg #[.int .i64 0, .int .i64 0, .string { data := #[] }, .int .i64 0], .int .i64 (-1)]
  | some (t, k) => .tuple #[.agg #[.int .i64 t.kind, .int .i64 a, .string { data := t.text.toArray }, .int .i64 t.n], .int .i64 (a + k)]
theorem ret_val {a b : Value} (h : a = b) : Ending.returned a = .returned b := by rw [h]
theorem piece_le (s : ByteArray) (a b : Nat) : (s.extract a b).size ≤ s.size := by rw [ByteArray.size_extract]; omega
theorem piece (s : ByteArray) (a b : Nat) : s.extract a b = { data := ((s.data.toList.drop a).take (b - a)).toArray } := Lib.extract_eq s a b

set_option maxHeartbeats 1000000 in
theorem readVariable_1 (s : ByteArray) (a : Int) (w : World) (h0 : 0 ≤ a) (h1 : a < s.size) (hs : s.size ≤ 4000) (hA : ∀ i (h : i < s.size), (s[i]'h).toNat < 128) (hq : [39].isPrefixOf (s.data.toList.drop (a + 1).toNat) = false) :
    Calls Tryd.prog 24 #[.string s, .int .i64 a] w fun e w' => e = .returned (tokVal a (Lx.tokVarAt 1 (s.data.toList.drop a.toNat))) ∧ Below w.heap.size w w' := by
  have hle : a + 1 ≤ s.size := by
    omega
  have hd : (s.data.toList.drop a.toNat).drop 1 = s.data.toList.drop (a + 1).toNat := by rw [List.drop_drop, show a.toNat + 1 = (a + 1).toNat from by omega]
  have Hd : Hid _ := hd
  have hl1 := front_le Lx.isSmall (s.data.toList.drop (a + 1).toNat)
  have hl2 := front_le Lx.inVar (s.data.toList.drop (a + 1).toNat)
  rw [drop_len] at hl1 hl2
  clear hd
  go_enter Tryd.func24, Tryd.ntmps24
  go_wp2_with (go_at_call 20; refine (hasPrefixAt _ _ _ _).mono ?_; rintro e w' ⟨rfl, rfl⟩)
  refine (span_any s _ _ _ (by omega) (by omega) hs hA).mono ?_
  rintro e w1 ⟨rfl, hb1⟩
  rw [inS_small]
  by_cases hsm : ((s.data.toList.drop (a + 1).toNat).takeWhile Lx.isSmall).length = 0
  · have hv1 : Hid (Lx.tokVarAt 1 (s.data.toList.drop a.toNat) = none) := by unfold Hid Lx.tokVarAt; rw [Hd.out, if_pos hsm]
    have HB : Hid _ := hb1
    obtain ⟨c0, c1, c2, c3, f0, f1, f2, f3, hbw, hsz⟩ := box_tok hb1
    clear hb1
    have ht : (a + 1 + ((((s.data.toList.drop (a + 1).toNat).takeWhile Lx.isSmall).length : Nat) : Int) == a + 1) = true := by rw [beq_iff_eq]; omega
    go_wp2
    refine bodyPost_ret (v := .tuple #[.agg #[.int .i64 0, .int .i64 0, .string { data := #[] }, .int .i64 0], .int .i64 (-1)]) (by simp [results, Tryd.results24, go_sem, c0, c1, c2, c3]) rfl ⟨?_, (((hbw.setCell (Nat.le_refl _) _).setCell (Nat.le_refl _) _).setCell (Nat.le_refl _) _).setCell (Nat.le_refl _) _⟩
    rw [hv1.out]
    rfl
  · have ht : (a + 1 + ((((s.data.toList.drop (a + 1).toNat).takeWhile Lx.isSmall).length : Nat) : Int) == a + 1) = false := by rw [beq_eq_false_iff_ne]; omega
    go_wp2_with fail
    refine (span_any s _ _ _ (by omega) (by omega) hs hA).mono ?_
    rintro e w2 ⟨rfl, hb2⟩
    rw [inS_var]
    have hb3 := Below.then hb1 hb2 (Nat.le_refl _)
    clear hb1 hb2
    by_cases hlong : 20 < ((s.data.toList.drop (a + 1).toNat).takeWhile Lx.inVar).length
    · have hv1 : Hid (Lx.tokVarAt 1 (s.data.toList.drop a.toNat) = none) := by unfold Hid Lx.tokVarAt; rw [Hd.out, if_neg hsm, if_pos hlong]
      obtain ⟨c0, c1, c2, c3, f0, f1, f2, f3, hbw, hsz⟩ := box_tok hb3
      clear hb3
      have hlong' : (20 : Int) < ((((s.data.toList.drop (a + 1).toNat).takeWhile Lx.inVar).length : Nat) : Int) := by omega
      go_wp2
      refine bodyPost_ret (v := .tuple #[.agg #[.int .i64 0, .int .i64 0, .string { data := #[] }, .int .i64 0], .int .i64 (-1)]) (by simp [results, Tryd.results24, go_sem, c0, c1, c2, c3]) rfl ⟨?_, (((hbw.setCell (Nat.le_refl _) _).setCell (Nat.le_refl _) _).setCell (Nat.le_refl _) _).setCell (Nat.le_refl _) _⟩
      rw [hv1.out]
      rfl
    · have hfin : Hid (tokVal a (Lx.tokVarAt 1 (s.data.toList.drop a.toNat)) = .tuple #[.agg #[.int .i64 5, .int .i64 a, .string (s.extract a.toNat (a + 1 + ((((s.data.toList.drop (a + 1).toNat).takeWhile Lx.inVar).length : Nat) : Int)).toNat), .int .i64 0], .int .i64 (a + 1 + ((((s.data.toList.drop (a + 1).toNat).takeWhile Lx.inVar).length : Nat) : Int))]) := by
        unfold Hid Lx.tokVarAt
        rw [Hd.out, if_neg hsm, if_neg hlong]
        generalize ((s.data.toList.drop (a + 1).toNat).takeWhile Lx.inVar).length = n
        rw [piece, show (a + 1 + (n : Int)).toNat - a.toNat = 1 + n from by omega]
        simp only [tokVal]
        rw [show a + ((1 + n : Nat) : Int) = a + 1 + (n : Int) from by omega]
        rfl
      have hlong' : ¬ (20 : Int) < ((((s.data.toList.drop (a + 1).toNat).takeWhile Lx.inVar).length : Nat) : Int) := by omega
      go_wp2_with fail
      refine (textToken_any _ _ _ _ (Nat.le_trans (piece_le _ _ _) hs)).mono ?_
      rintro e w3 ⟨rfl, hb4⟩
      obtain ⟨c0, c1, c2, c3, f0, f1, f2, f3, hbw, hsz⟩ := box_tok (Below.then hb3 hb4 (Nat.le_refl _))
      clear hb3 hb4
      go_wp2
      refine bodyPost_ret (v := .tuple #[.agg #[.int .i64 5, .int .i64 a, .string (s.extract a.toNat (a + 1 + ((((s.data.toList.drop (a + 1).toNat).takeWhile Lx.inVar).length : Nat) : Int)).toNat), .int .i64 0], .int .i64 (a + 1 + ((((s.data.toList.drop (a + 1).toNat).takeWhile Lx.inVar).length : Nat) : Int))]) (by simp [results, Tryd.results24, go_sem, c0, c1, c2, c3]) rfl ⟨?_, (((hbw.setCell (Nat.le_refl _) _).setCell (Nat.le_refl _) _).setCell (Nat.le_refl _) _).setCell (Nat.le_refl _) _⟩
      rw [hfin.out]

set_option maxHeartbeats 1000000 in
theorem readVariable_2 (s : ByteArray) (a : Int) (w : World) (h0 : 0 ≤ a) (h1 : a < s.size) (hs : s.size ≤ 4000) (hA : ∀ i (h : i < s.size), (s[i]'h).toNat < 128) (hq : [39].isPrefixOf (s.data.toList.drop (a + 1).toNat) = true) :
    Calls Tryd.prog 24 #[.string s, .int .i64 a] w fun e w' => e = .returned (tokVal a (Lx.tokVarAt 2 (s.data.toList.drop a.toNat))) ∧ Below w.heap.size w w' := by
  have hle : a + 2 ≤ s.size := by
    have h := (List.isPrefixOf_iff_prefix.1 hq).length_le; rw [drop_len] at h; simp at h; omega
  have hd : (s.data.toList.drop a.toNat).drop 2 = s.data.toList.drop (a + 1 + 1).toNat := by rw [List.drop_drop, show a.toNat + 2 = (a + 1 + 1).toNat from by omega]
  have Hd : Hid _ := hd
  have hl1 := front_le Lx.isSmall (s.data.toList.drop (a + 1 + 1).toNat)
  have hl2 := front_le Lx.inVar (s.data.toList.drop (a + 1 + 1).toNat)
  rw [drop_len] at hl1 hl2
  clear hd
  go_enter Tryd.func24, Tryd.ntmps24
  go_wp2_with (go_at_call 20; refine (hasPrefixAt _ _ _ _).mono ?_; rintro e w' ⟨rfl, rfl⟩)
  refine (span_any s _ _ _ (by omega) (by omega) hs hA).mono ?_
  rintro e w1 ⟨rfl, hb1⟩
  rw [inS_small]
  by_cases hsm : ((s.data.toList.drop (a + 1 + 1).toNat).takeWhile Lx.isSmall).length = 0
  · have hv1 : Hid (Lx.tokVarAt 2 (s.data.toList.drop a.toNat) = none) := by unfold Hid Lx.tokVarAt; rw [Hd.out, if_pos hsm]
    have HB : Hid _ := hb1
    obtain ⟨c0, c1, c2, c3, f0, f1, f2, f3, hbw, hsz⟩ := box_tok hb1
    clear hb1
    have ht : (a + 1 + 1 + ((((s.data.toList.drop (a + 1 + 1).toNat).takeWhile Lx.isSmall).length : Nat) : Int) == a + 1 + 1) = true := by rw [beq_iff_eq]; omega
    go_wp2
    refine bodyPost_ret (v := .tuple #[.agg #[.int .i64 0, .int .i64 0, .string { data := #[] }, .int .i64 0], .int .i64 (-1)]) (by simp [results, Tryd.results24, go_sem, c0, c1, c2, c3]) rfl ⟨?_, (((hbw.setCell (Nat.le_refl _) _).setCell (Nat.le_refl _) _).setCell (Nat.le_refl _) _).setCell (Nat.le_refl _) _⟩
    rw [hv1.out]
    rfl
  · have ht : (a + 1 + 1 + ((((s.data.toList.drop (a + 1 + 1).toNat).takeWhile Lx.isSmall).length : Nat) : Int) == a + 1 + 1) = false := by rw [beq_eq_false_iff_ne]; omega
    go_wp2_with fail
    refine (span_any s _ _ _ (by omega) (by omega) hs hA).mono ?_
    rintro e w2 ⟨rfl, hb2⟩
    rw [inS_var]
    have hb3 := Below.then hb1 hb2 (Nat.le_refl _)
    clear hb1 hb2
    by_cases hlong : 20 < ((s.data.toList.drop (a + 1 + 1).toNat).takeWhile Lx.inVar).length
    · have hv1 : Hid (Lx.tokVarAt 2 (s.data.toList.drop a.toNat) = none) := by unfold Hid Lx.tokVarAt; rw [Hd.out, if_neg hsm, if_pos hlong]
      obtain ⟨c0, c1, c2, c3, f0, f1, f2, f3, hbw, hsz⟩ := box_tok hb3
      clear hb3
      have hlong' : (20 : Int) < ((((s.data.toList.drop (a + 1 + 1).toNat).takeWhile Lx.inVar).length : Nat) : Int) := by omega
      go_wp2
      refine bodyPost_ret (v := .tuple #[.agg #[.int .i64 0, .int .i64 0, .string { data := #[] }, .int .i64 0], .int .i64 (-1)]) (by simp [results, Tryd.results24, go_sem, c0, c1, c2, c3]) rfl ⟨?_, (((hbw.setCell (Nat.le_refl _) _).setCell (Nat.le_refl _) _).setCell (Nat.le_refl _) _).setCell (Nat.le_refl _) _⟩
      rw [hv1.out]
      rfl
    · have hfin : Hid (tokVal a (Lx.tokVarAt 2 (s.data.toList.drop a.toNat)) = .tuple #[.agg #[.int .i64 5, .int .i64 a, .string (s.extract a.toNat (a + 1 + 1 + ((((s.data.toList.drop (a + 1 + 1).toNat).takeWhile Lx.inVar).length : Nat) : Int)).toNat), .int .i64 0], .int .i64 (a + 1 + 1 + ((((s.data.toList.drop (a + 1 + 1).toNat).takeWhile Lx.inVar).length : Nat) : Int))]) := by
        unfold Hid Lx.tokVarAt
        rw [Hd.out, if_neg hsm, if_neg hlong]
        generalize ((s.data.toList.drop (a + 1 + 1).toNat).takeWhile Lx.inVar).length = n
        rw [piece, show (a + 1 + 1 + (n : Int)).toNat - a.toNat = 2 + n from by omega]
        simp only [tokVal]
        rw [show a + ((2 + n : Nat) : Int) = a + 1 + 1 + (n : Int) from by omega]
        rfl
      have hlong' : ¬ (20 : Int) < ((((s.data.toList.drop (a + 1 + 1).toNat).takeWhile Lx.inVar).length : Nat) : Int) := by omega
      go_wp2_with fail
      refine (textToken_any _ _ _ _ (Nat.le_trans (piece_le _ _ _) hs)).mono ?_
      rintro e w3 ⟨rfl, hb4⟩
      obtain ⟨c0, c1, c2, c3, f0, f1, f2, f3, hbw, hsz⟩ := box_tok (Below.then hb3 hb4 (Nat.le_refl _))
      clear hb3 hb4
      go_wp2
      refine bodyPost_ret (v := .tuple #[.agg #[.int .i64 5, .int .i64 a, .string (s.extract a.toNat (a + 1 + 1 + ((((s.data.toList.drop (a + 1 + 1).toNat).takeWhile Lx.inVar).length : Nat) : Int)).toNat), .int .i64 0], .int .i64 (a + 1 + 1 + ((((s.data.toList.drop (a + 1 + 1).toNat).takeWhile Lx.inVar).length : Nat) : Int))]) (by simp [results, Tryd.results24, go_sem, c0, c1, c2, c3]) rfl ⟨?_, (((hbw.setCell (Nat.le_refl _) _).setCell (Nat.le_refl _) _).setCell (Nat.le_refl _) _).setCell (Nat.le_refl _) _⟩
      rw [hfin.out]

theorem readVariable_any (s : ByteArray) (a : Int) (w : World) (h0 : 0 ≤ a) (h1 : a < s.size) (hs : s.size ≤ 4000) (hA : ∀ i (h : i < s.size), (s[i]'h).toNat < 128) :
    Calls Tryd.prog 24 #[.string s, .int .i64 a] w fun e w' => e = .returned (tokVal a (Lx.tokVar (s.data.toList.drop a.toNat))) ∧ Below w.heap.size w w' := by
  have hd : (s.data.toList.drop a.toNat).drop 1 = s.data.toList.drop (a + 1).toNat := by rw [List.drop_drop, show a.toNat + 1 = (a + 1).toNat from by omega]
  unfold Lx.tokVar
  rw [hd]
  cases hq : [39].isPrefixOf (s.data.toList.drop (a + 1).toNat)
  · exact readVariable_1 s a w h0 h1 hs hA hq
  · exact readVariable_2 s a w h0 h1 hs hA hq
end Go.Proofs.YtapdhlfgakbebaaDoor
