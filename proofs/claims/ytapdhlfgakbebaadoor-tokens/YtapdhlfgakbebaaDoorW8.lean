/-
  The walk of readName: a name, a word, or none if it is too long, as the plain words say; nothing old changes.
-/
import Derived.Test.YtapdhlfgakbebaaDoorW7
namespace Go.Proofs.YtapdhlfgakbebaaDoor
open Go.RowKit Go.Maps Go.WideMaps
/-- The words' map lies in block b. -/
def WordsAt (w : World) (b : Nat) : Prop := w.ownsMap Tryd.prog 9 (plainElem (H := Unit) Tryd.prog 3) b 28 (wordsData Lx.words (.map []))
theorem WordsAt.keep {w w' : World} {b B : Nat} (h : WordsAt w b) (hb : Below B w w') (hB : b < B) : WordsAt w' b := by
  obtain ⟨es, clock, h1, h2⟩ := h
  exact ⟨es, clock, by rw [hb.block b hB]; exact h1, h2⟩
theorem WordsAt.lt {w : World} {b : Nat} (h : WordsAt w b) : b < w.heap.size := World.ownsMap.lt h
theorem setOf_great (c : UInt8) : (Lx.setOf c.toNat == 8) = Lx.isGreat c := by
  rw [Bool.eq_iff_iff, beq_iff_eq, isGreat_iff]
  have := setOf_cases c.toNat
  omega

set_option maxHeartbeats 1000000 in
set_option maxRecDepth 100000 in
theorem readName_any (s : ByteArray) (a : Int) (b : Nat) (w : World) (hm : WordsAt w b) (h0 : 0 ≤ a) (h1 : a < s.size) (hs : s.size ≤ 4000) (hA : ∀ i (h : i < s.size), (s[i]'h).toNat < 128) :
    Calls Tryd.prog 25 #[.string s, .int .i64 a, .map (some b)] w fun e w' => e = .returned (tokVal a (Lx.tokName (Lx.isGreat (s[a.toNat]'(by omega))) (s.data.toList.drop a.toNat))) ∧ Below w.heap.size w w' := by
  have hl1 := front_le Lx.inName (s.data.toList.drop a.toNat)
  rw [drop_len] at hl1
  have hpc : s.extract a.toNat (a + (((s.data.toList.drop a.toNat).takeWhile Lx.inName).length : Nat)).toNat = { data := ((s.data.toList.drop a.toNat).takeWhile Lx.inName).toArray } := by
    rw [piece, show (a + (((s.data.toList.drop a.toNat).takeWhile Lx.inName).length : Nat)).toNat - a.toNat = ((s.data.toList.drop a.toNat).takeWhile Lx.inName).length from by omega]
    rw [← List.prefix_iff_eq_take.1 (List.takeWhile_prefix _)]
  have hgr := setOf_great (s[a.toNat]'(by omega))
  unfold Lx.tokName
  generalize hD : (s.data.toList.drop a.toNat).takeWhile Lx.inName = D at *
  have HD : Hid _ := hD
  clear hD
  have Hpc : Hid _ := hpc
  clear hpc
  have hln : ({ data := D.toArray } : ByteArray).size = D.length := by simp [ByteArray.size]
  by_cases hlong : 20 < D.length
  · rw [if_pos hlong]
    have hlong' : (20 : Int) < (D.length : Int) := by omega
    go_enter Tryd.func25, Tryd.ntmps25
    go_wp2_with fail
    refine (span_any s _ _ _ (by omega) (by omega) hs hA).mono ?_
    rintro e w1 ⟨rfl, hb1⟩
    rw [inS_name, HD.out]
    obtain ⟨c0, c1, c2, c3, f0, f1, f2, f3, hbw, hsz⟩ := box_tok hb1
    clear hb1
    go_wp2
    refine bodyPost_ret (v := .tuple #[.agg #[.int .i64 0, .int .i64 0, .string { data := #[] }, .int .i64 0], .int .i64 (-1)]) (by simp [results, Tryd.results25, go_sem, c0, c1, c2, c3]) rfl ⟨rfl, (((hbw.setCell (Nat.le_refl _) _).setCell (Nat.le_refl _) _).setCell (Nat.le_refl _) _).setCell (Nat.le_refl _) _⟩
  · rw [if_neg hlong]
    have hlong' : ¬ (20 : Int) < (D.length : Int) := by omega
    have hlow : ((s[a.toNat]'(by omega)).toNat : Int) < 128 := by have := hA a.toNat (by omega); omega
    cases hg : Lx.isGreat (s[a.toNat]'(by omega))
    · rw [hg] at hgr
      have hlen : ({ data := D.toArray } : ByteArray).size ≤ maxLen := by rw [hln]; unfold maxLen; omega
      have Hhas : Hid (Maps.has (wordsData Lx.words (.map [])) (.string D) = Lx.words.contains D) := by
        unfold Hid
        rw [wordsData_has _ _ _ ⟨_, rfl⟩]
        simp [Maps.has]
      have Hat : Hid ((wordsData Lx.words (.map [])).atKey (.string D) (.lit (.int .i64 0)) = (if Lx.words.contains D then .lit (.int .i64 6) else .lit (.int .i64 0))) := by
        unfold Hid
        rw [wordsData_at _ _ _ _ ⟨_, rfl⟩]
        rfl
      unfold Lx.nameKind
      cases hc : Lx.words.contains D
      all_goals rw [hc] at Hhas Hat
      all_goals simp only [if_true, if_false, Bool.false_eq_true] at Hat ⊢
      all_goals clear hc hg
      all_goals go_enter Tryd.func25, Tryd.ntmps25
      all_goals go_wp2_with fail
      all_goals refine (span_any s _ _ _ (by omega) (by omega) hs hA).mono ?_
      all_goals rintro e w1 ⟨rfl, hb1⟩
      all_goals rw [inS_name, HD.out]
      all_goals have hmw := hm.keep ((Below.refl _ w).alloc (Nat.le_refl _) (Obj.cells #[Value.int IntKind.i64 0, Value.int IntKind.i64 0, Value.string { data := #[] }, Value.int IntKind.i64 0] 31)) hm.lt |>.keep hb1 (Nat.lt_of_lt_of_le hm.lt (by simp))
      all_goals go_wp2_with fail
      all_goals rw [Hpc.out]
      all_goals refine (setOf_any _ _).mono ?_
      all_goals rintro e w' ⟨rfl, rfl⟩
      all_goals go_wp2_with (at_lookup; refine wpList_lookup_own_ok_int _ rfl _ _ 37 rfl 9 3 .i64 law9 Tryd.underlying37 Tryd.underlying3 (zero3 _) b 28 _ rfl hmw _ (.string D) rfl (keyOf_string_mk Tryd.underlying9 hlen) ?_; rw [Hhas.out]; intro c hat hwc)
      all_goals rw [Hat.out] at hat
      all_goals simp only [DataW.lit.injEq, Lit.int.injEq, true_and] at hat
      all_goals subst hat
      all_goals clear hmw hm
      · refine (textToken_any _ _ _ _ (by rw [hln]; omega)).mono ?_
        rintro e w3 ⟨rfl, hb4⟩
        obtain ⟨c0, c1, c2, c3, f0, f1, f2, f3, hbw, hsz⟩ := box_tok (Below.then hb1 hb4 (Nat.le_refl _))
        clear hb1 hb4
        go_wp2
        exact bodyPost_ret (v := .tuple #[.agg #[.int .i64 3, .int .i64 a, .string { data := D.toArray }, .int .i64 0], .int .i64 (a + (D.length : Nat))]) (by simp [results, Tryd.results25, go_sem, c0, c1, c2, c3]) rfl ⟨rfl, (((hbw.setCell (Nat.le_refl _) _).setCell (Nat.le_refl _) _).setCell (Nat.le_refl _) _).setCell (Nat.le_refl _) _⟩
      · refine (textToken_any _ _ _ _ (by rw [hln]; omega)).mono ?_
        rintro e w3 ⟨rfl, hb4⟩
        obtain ⟨c0, c1, c2, c3, f0, f1, f2, f3, hbw, hsz⟩ := box_tok (Below.then hb1 hb4 (Nat.le_refl _))
        clear hb1 hb4
        go_wp2
        exact bodyPost_ret (v := .tuple #[.agg #[.int .i64 6, .int .i64 a, .string { data := D.toArray }, .int .i64 0], .int .i64 (a + (D.length : Nat))]) (by simp [results, Tryd.results25, go_sem, c0, c1, c2, c3]) rfl ⟨rfl, (((hbw.setCell (Nat.le_refl _) _).setCell (Nat.le_refl _) _).setCell (Nat.le_refl _) _).setCell (Nat.le_refl _) _⟩
    · rw [hg] at hgr
      unfold Lx.nameKind
      simp only [if_true]
      clear hg
      go_enter Tryd.func25, Tryd.ntmps25
      go_wp2_with fail
      refine (span_any s _ _ _ (by omega) (by omega) hs hA).mono ?_
      rintro e w1 ⟨rfl, hb1⟩
      rw [inS_name, HD.out]
      go_wp2_with fail
      rw [Hpc.out]
      refine (setOf_any _ _).mono ?_
      rintro e w' ⟨rfl, rfl⟩
      go_wp2_with fail
      refine (textToken_any _ _ _ _ (by rw [hln]; omega)).mono ?_
      rintro e w3 ⟨rfl, hb4⟩
      obtain ⟨c0, c1, c2, c3, f0, f1, f2, f3, hbw, hsz⟩ := box_tok (Below.then hb1 hb4 (Nat.le_refl _))
      clear hb1 hb4
      go_wp2
      exact bodyPost_ret (v := .tuple #[.agg #[.int .i64 4, .int .i64 a, .string { data := D.toArray }, .int .i64 0], .int .i64 (a + (D.length : Nat))]) (by simp [results, Tryd.results25, go_sem, c0, c1, c2, c3]) rfl ⟨rfl, (((hbw.setCell (Nat.le_refl _) _).setCell (Nat.le_refl _) _).setCell (Nat.le_refl _) _).setCell (Nat.le_refl _) _⟩
end Go.Proofs.YtapdhlfgakbebaaDoor
