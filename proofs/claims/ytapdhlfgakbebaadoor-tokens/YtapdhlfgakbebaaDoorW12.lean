/-
  The walk of read: the longest token at a place, or none, as the plain words say; nothing old changes.
-/
import Derived.Test.YtapdhlfgakbebaaDoorW11
namespace Go.Proofs.YtapdhlfgakbebaaDoor
open Go.RowKit
theorem tokVal_form (a : Int) (X : Option (Lx.Tok × Nat)) : ∃ x0 x1 : Int, ∃ x2 : ByteArray, ∃ x3 r : Int, tokVal a X = .tuple #[.agg #[.int .i64 x0, .int .i64 x1, .string x2, .int .i64 x3], .int .i64 r] := by
  cases X with
  | none => exact ⟨_, _, _, _, _, rfl⟩
  | some p => exact ⟨_, _, _, _, _, rfl⟩
theorem tok_cons (c : UInt8) (r : List UInt8) : Lx.tok (c :: r) = (if Lx.isDigit c then Lx.tokNum (c :: r) else if c = 34 then Lx.tokStr (c :: r) else if c = 39 then Lx.tokVar (c :: r)
    else if Lx.isSmall c then Lx.tokName false (c :: r) else if Lx.isGreat c then Lx.tokName true (c :: r)
    else if c = 95 ∧ 1 < ((c :: r).takeWhile Lx.inName).length then Lx.tokName false (c :: r) else Lx.tokSign (c :: r)) := rfl
theorem u8_of {c : UInt8} {k : Nat} (hk : k < 256) (h : (c.toNat : Int) = k) : c = UInt8.ofNat k := (u8_eq c k hk).2 (by omega)
set_option maxHeartbeats 4000000 in
set_option maxRecDepth 100000 in
theorem read_any (s : ByteArray) (a : Int) (b : Nat) (w : World) (hL : Laid w) (hm : WordsAt w b) (h0 : 0 ≤ a) (h1 : a < s.size) (hs : s.size ≤ 4000) (hA : ∀ i (h : i < s.size), (s[i]'h).toNat < 128) :
    Calls Tryd.prog 16 #[.string s, .int .i64 a, .map (some b)] w fun e w' => e = .returned (tokVal a (Lx.tok (s.data.toList.drop a.toNat))) ∧ Below w.heap.size w w' := by
  have hlt : a.toNat < s.size := by omega
  have hdr := drop_at s a.toNat hlt
  have hLb : Laid (w.alloc (Obj.cells #[Value.int IntKind.i64 0, Value.int IntKind.i64 0, Value.string { data := #[] }, Value.int IntKind.i64 0] 31)) := hL.keep ((Below.refl _ w).alloc (Nat.le_refl _) _) hL.two
  have hmb : WordsAt (w.alloc (Obj.cells #[Value.int IntKind.i64 0, Value.int IntKind.i64 0, Value.string { data := #[] }, Value.int IntKind.i64 0] 31)) b := hm.keep ((Below.refl _ w).alloc (Nat.le_refl _) _) hm.lt
  have HL : Hid _ := hLb
  have HM : Hid _ := hmb
  clear hLb hmb
  have hc128 : ((s[a.toNat].toNat : Nat) : Int) < 128 := by have := hA a.toNat hlt; omega
  rcases setOf_cases (s[a.toNat]).toNat with ⟨e, h⟩ | ⟨e, h⟩ | ⟨e, h⟩ | ⟨e, h⟩ | ⟨e, h⟩ | ⟨e, h⟩ | ⟨e, h⟩ | ⟨e, h⟩
  · have htk : Lx.tok (s.data.toList.drop a.toNat) = Lx.tokSign (s.data.toList.drop a.toNat) := by
      rw [hdr, tok_cons]
      rw [if_neg (fun q => by have := (isDigit_iff _).1 q; omega)]
      rw [if_neg (fun q => by rw [q] at h; exact absurd h (by decide))]
      rw [if_neg (fun q => by rw [q] at h; exact absurd h (by decide))]
      rw [if_neg (fun q => by have := (isSmall_iff _).1 q; omega)]
      rw [if_neg (fun q => by have := (isGreat_iff _).1 q; omega)]
      rw [if_neg (fun q => by have q1 := q.1; rw [q1] at h; exact absurd h (by decide))]
    rw [htk]
    clear htk hdr h
    obtain ⟨x0, x1, x2, x3, r, hv⟩ := tokVal_form a (Lx.tokSign (s.data.toList.drop a.toNat))
    have Hv : Hid _ := hv
    clear hv
    go_enter Tryd.func16, Tryd.ntmps16
    go_wp2_with fail
    refine (setOf_any _ _).mono ?_
    rintro e w' ⟨rfl, rfl⟩
    go_wp2_with fail
    refine (readSign_any s a _ HL.out h0 h1 hs).mono ?_
    rintro e w1 ⟨rfl, hb1⟩
    rw [Hv.out]
    obtain ⟨c0, c1, c2, c3, f0, f1, f2, f3, hbw, hsz⟩ := box_tok hb1
    clear hb1
    go_wp2
    refine bodyPost_ret (v := .tuple #[.agg #[.int .i64 x0, .int .i64 x1, .string x2, .int .i64 x3], .int .i64 r]) (by simp [results, Tryd.results16, go_sem, c0, c1, c2, c3]) rfl ⟨?_, (((hbw.setCell (Nat.le_refl _) _).setCell (Nat.le_refl _) _).setCell (Nat.le_refl _) _).setCell (Nat.le_refl _) _⟩
    rw [← Hv.out]
  · have htk : Lx.tok (s.data.toList.drop a.toNat) = Lx.tokNum (s.data.toList.drop a.toNat) := by
      rw [hdr, tok_cons]
      rw [if_pos ((isDigit_iff _).2 (by omega))]
    rw [htk]
    clear htk hdr h
    obtain ⟨x0, x1, x2, x3, r, hv⟩ := tokVal_form a (Lx.tokNum (s.data.toList.drop a.toNat))
    have Hv : Hid _ := hv
    clear hv
    go_enter Tryd.func16, Tryd.ntmps16
    go_wp2_with fail
    refine (setOf_any _ _).mono ?_
    rintro e w' ⟨rfl, rfl⟩
    go_wp2_with fail
    refine (readNumber_any s a _ h0 h1 hs hA).mono ?_
    rintro e w1 ⟨rfl, hb1⟩
    rw [Hv.out]
    obtain ⟨c0, c1, c2, c3, f0, f1, f2, f3, hbw, hsz⟩ := box_tok hb1
    clear hb1
    go_wp2
    refine bodyPost_ret (v := .tuple #[.agg #[.int .i64 x0, .int .i64 x1, .string x2, .int .i64 x3], .int .i64 r]) (by simp [results, Tryd.results16, go_sem, c0, c1, c2, c3]) rfl ⟨?_, (((hbw.setCell (Nat.le_refl _) _).setCell (Nat.le_refl _) _).setCell (Nat.le_refl _) _).setCell (Nat.le_refl _) _⟩
    rw [← Hv.out]
  · have htk : Lx.tok (s.data.toList.drop a.toNat) = Lx.tokName (Lx.isGreat s[a.toNat]) (s.data.toList.drop a.toNat) := by
      rw [hdr, tok_cons]
      rw [if_neg (fun q => by have := (isDigit_iff _).1 q; omega)]
      rw [if_neg (fun q => by rw [q] at h; exact absurd h (by decide))]
      rw [if_neg (fun q => by rw [q] at h; exact absurd h (by decide))]
      rw [if_pos ((isSmall_iff _).2 (by omega))]
      rw [show Lx.isGreat s[a.toNat] = false from by rw [Bool.eq_false_iff]; intro q; have := (isGreat_iff _).1 q; omega]
    rw [htk]
    clear htk hdr h
    obtain ⟨x0, x1, x2, x3, r, hv⟩ := tokVal_form a (Lx.tokName (Lx.isGreat s[a.toNat]) (s.data.toList.drop a.toNat))
    have Hv : Hid _ := hv
    clear hv
    go_enter Tryd.func16, Tryd.ntmps16
    go_wp2_with fail
    refine (setOf_any _ _).mono ?_
    rintro e w' ⟨rfl, rfl⟩
    go_wp2_with fail
    refine (readName_any s a b _ HM.out h0 h1 hs hA).mono ?_
    rintro e w1 ⟨rfl, hb1⟩
    rw [Hv.out]
    obtain ⟨c0, c1, c2, c3, f0, f1, f2, f3, hbw, hsz⟩ := box_tok hb1
    clear hb1
    go_wp2
    refine bodyPost_ret (v := .tuple #[.agg #[.int .i64 x0, .int .i64 x1, .string x2, .int .i64 x3], .int .i64 r]) (by simp [results, Tryd.results16, go_sem, c0, c1, c2, c3]) rfl ⟨?_, (((hbw.setCell (Nat.le_refl _) _).setCell (Nat.le_refl _) _).setCell (Nat.le_refl _) _).setCell (Nat.le_refl _) _⟩
    rw [← Hv.out]
  · have htk : Lx.tok (s.data.toList.drop a.toNat) = Lx.tokName (Lx.isGreat s[a.toNat]) (s.data.toList.drop a.toNat) := by
      rw [hdr, tok_cons]
      rw [if_neg (fun q => by have := (isDigit_iff _).1 q; omega)]
      rw [if_neg (fun q => by rw [q] at h; exact absurd h (by decide))]
      rw [if_neg (fun q => by rw [q] at h; exact absurd h (by decide))]
      rw [if_neg (fun q => by have := (isSmall_iff _).1 q; omega)]
      rw [if_pos ((isGreat_iff _).2 (by omega))]
      rw [show Lx.isGreat s[a.toNat] = true from (isGreat_iff _).2 (by omega)]
    rw [htk]
    clear htk hdr h
    obtain ⟨x0, x1, x2, x3, r, hv⟩ := tokVal_form a (Lx.tokName (Lx.isGreat s[a.toNat]) (s.data.toList.drop a.toNat))
    have Hv : Hid _ := hv
    clear hv
    go_enter Tryd.func16, Tryd.ntmps16
    go_wp2_with fail
    refine (setOf_any _ _).mono ?_
    rintro e w' ⟨rfl, rfl⟩
    go_wp2_with fail
    refine (readName_any s a b _ HM.out h0 h1 hs hA).mono ?_
    rintro e w1 ⟨rfl, hb1⟩
    rw [Hv.out]
    obtain ⟨c0, c1, c2, c3, f0, f1, f2, f3, hbw, hsz⟩ := box_tok hb1
    clear hb1
    go_wp2
    refine bodyPost_ret (v := .tuple #[.agg #[.int .i64 x0, .int .i64 x1, .string x2, .int .i64 x3], .int .i64 r]) (by simp [results, Tryd.results16, go_sem, c0, c1, c2, c3]) rfl ⟨?_, (((hbw.setCell (Nat.le_refl _) _).setCell (Nat.le_refl _) _).setCell (Nat.le_refl _) _).setCell (Nat.le_refl _) _⟩
    rw [← Hv.out]
  · have hu : s[a.toNat] = 95 := u8_of (k := 95) (by omega) h
    have hfl := front_le Lx.inName (s.data.toList.drop a.toNat)
    rw [drop_len] at hfl
    by_cases hlong : 1 < ((s.data.toList.drop a.toNat).takeWhile Lx.inName).length
    · have htk : Lx.tok (s.data.toList.drop a.toNat) = Lx.tokName (Lx.isGreat s[a.toNat]) (s.data.toList.drop a.toNat) := by
        rw [hdr] at hlong ⊢
        rw [tok_cons]
        rw [if_neg (fun q => by have := (isDigit_iff _).1 q; omega)]
        rw [if_neg (fun q => by rw [q] at h; exact absurd h (by decide))]
        rw [if_neg (fun q => by rw [q] at h; exact absurd h (by decide))]
        rw [if_neg (fun q => by have := (isSmall_iff _).1 q; omega)]
        rw [if_neg (fun q => by have := (isGreat_iff _).1 q; omega)]
        rw [if_pos ⟨hu, hlong⟩, hu]
        rfl
      rw [htk]
      clear htk hu hdr h
      have hl1 : a + 1 < a + ((((s.data.toList.drop a.toNat).takeWhile Lx.inName).length : Nat) : Int) := by omega
      obtain ⟨x0, x1, x2, x3, r, hv⟩ := tokVal_form a (Lx.tokName (Lx.isGreat s[a.toNat]) (s.data.toList.drop a.toNat))
      have Hv : Hid _ := hv
      clear hv
      go_enter Tryd.func16, Tryd.ntmps16
      go_wp2_with fail
      refine (setOf_any _ _).mono ?_
      rintro e w' ⟨rfl, rfl⟩
      go_wp2_with fail
      refine (span_any s _ _ _ (by omega) (by omega) hs hA).mono ?_
      rintro e ws ⟨rfl, hbs⟩
      rw [inS_name]
      go_wp2_with fail
      refine (readName_any s a b _ (WordsAt.keep HM.out hbs (WordsAt.lt HM.out)) h0 h1 hs hA).mono ?_
      rintro e w1 ⟨rfl, hb1⟩
      rw [Hv.out]
      obtain ⟨c0, c1, c2, c3, f0, f1, f2, f3, hbw, hsz⟩ := box_tok (Below.then hbs hb1 (Nat.le_refl _))
      clear hb1
      go_wp2
      refine bodyPost_ret (v := .tuple #[.agg #[.int .i64 x0, .int .i64 x1, .string x2, .int .i64 x3], .int .i64 r]) (by simp [results, Tryd.results16, go_sem, c0, c1, c2, c3]) rfl ⟨?_, (((hbw.setCell (Nat.le_refl _) _).setCell (Nat.le_refl _) _).setCell (Nat.le_refl _) _).setCell (Nat.le_refl _) _⟩
      rw [← Hv.out]
    · have htk : Lx.tok (s.data.toList.drop a.toNat) = Lx.tokSign (s.data.toList.drop a.toNat) := by
        rw [hdr] at hlong ⊢
        rw [tok_cons]
        rw [if_neg (fun q => by have := (isDigit_iff _).1 q; omega)]
        rw [if_neg (fun q => by rw [q] at h; exact absurd h (by decide))]
        rw [if_neg (fun q => by rw [q] at h; exact absurd h (by decide))]
        rw [if_neg (fun q => by have := (isSmall_iff _).1 q; omega)]
        rw [if_neg (fun q => by have := (isGreat_iff _).1 q; omega)]
        rw [if_neg (fun q => hlong q.2)]
      rw [htk]
      clear htk hu hdr h
      have hl1 : ¬ a + 1 < a + ((((s.data.toList.drop a.toNat).takeWhile Lx.inName).length : Nat) : Int) := by omega
      obtain ⟨x0, x1, x2, x3, r, hv⟩ := tokVal_form a (Lx.tokSign (s.data.toList.drop a.toNat))
      have Hv : Hid _ := hv
      clear hv
      go_enter Tryd.func16, Tryd.ntmps16
      go_wp2_with fail
      refine (setOf_any _ _).mono ?_
      rintro e w' ⟨rfl, rfl⟩
      go_wp2_with fail
      refine (span_any s _ _ _ (by omega) (by omega) hs hA).mono ?_
      rintro e ws ⟨rfl, hbs⟩
      rw [inS_name]
      go_wp2_with fail
      refine (readSign_any s a _ (Laid.keep HL.out hbs (Laid.two HL.out)) h0 h1 hs).mono ?_
      rintro e w1 ⟨rfl, hb1⟩
      rw [Hv.out]
      obtain ⟨c0, c1, c2, c3, f0, f1, f2, f3, hbw, hsz⟩ := box_tok (Below.then hbs hb1 (Nat.le_refl _))
      clear hb1
      go_wp2
      refine bodyPost_ret (v := .tuple #[.agg #[.int .i64 x0, .int .i64 x1, .string x2, .int .i64 x3], .int .i64 r]) (by simp [results, Tryd.results16, go_sem, c0, c1, c2, c3]) rfl ⟨?_, (((hbw.setCell (Nat.le_refl _) _).setCell (Nat.le_refl _) _).setCell (Nat.le_refl _) _).setCell (Nat.le_refl _) _⟩
      rw [← Hv.out]
  · have htk : Lx.tok (s.data.toList.drop a.toNat) = Lx.tokVar (s.data.toList.drop a.toNat) := by
      rw [hdr, tok_cons]
      rw [if_neg (fun q => by have := (isDigit_iff _).1 q; omega)]
      rw [if_neg (fun q => by rw [q] at h; exact absurd h (by decide))]
      rw [if_pos (show s[a.toNat] = 39 from u8_of (k := 39) (by omega) h)]
    rw [htk]
    clear htk hdr h
    obtain ⟨x0, x1, x2, x3, r, hv⟩ := tokVal_form a (Lx.tokVar (s.data.toList.drop a.toNat))
    have Hv : Hid _ := hv
    clear hv
    go_enter Tryd.func16, Tryd.ntmps16
    go_wp2_with fail
    refine (setOf_any _ _).mono ?_
    rintro e w' ⟨rfl, rfl⟩
    go_wp2_with fail
    refine (readVariable_any s a _ h0 h1 hs hA).mono ?_
    rintro e w1 ⟨rfl, hb1⟩
    rw [Hv.out]
    obtain ⟨c0, c1, c2, c3, f0, f1, f2, f3, hbw, hsz⟩ := box_tok hb1
    clear hb1
    go_wp2
    refine bodyPost_ret (v := .tuple #[.agg #[.int .i64 x0, .int .i64 x1, .string x2, .int .i64 x3], .int .i64 r]) (by simp [results, Tryd.results16, go_sem, c0, c1, c2, c3]) rfl ⟨?_, (((hbw.setCell (Nat.le_refl _) _).setCell (Nat.le_refl _) _).setCell (Nat.le_refl _) _).setCell (Nat.le_refl _) _⟩
    rw [← Hv.out]
  · have htk : Lx.tok (s.data.toList.drop a.toNat) = Lx.tokStr (s.data.toList.drop a.toNat) := by
      rw [hdr, tok_cons]
      rw [if_neg (fun q => by have := (isDigit_iff _).1 q; omega)]
      rw [if_pos (show s[a.toNat] = 34 from u8_of (k := 34) (by omega) h)]
    rw [htk]
    clear htk hdr h
    obtain ⟨x0, x1, x2, x3, r, hv⟩ := tokVal_form a (Lx.tokStr (s.data.toList.drop a.toNat))
    have Hv : Hid _ := hv
    clear hv
    go_enter Tryd.func16, Tryd.ntmps16
    go_wp2_with fail
    refine (setOf_any _ _).mono ?_
    rintro e w' ⟨rfl, rfl⟩
    go_wp2_with fail
    refine (readString_any s a _ HL.out h0 h1 hs hA).mono ?_
    rintro e w1 ⟨rfl, hb1⟩
    rw [Hv.out]
    obtain ⟨c0, c1, c2, c3, f0, f1, f2, f3, hbw, hsz⟩ := box_tok hb1
    clear hb1
    go_wp2
    refine bodyPost_ret (v := .tuple #[.agg #[.int .i64 x0, .int .i64 x1, .string x2, .int .i64 x3], .int .i64 r]) (by simp [results, Tryd.results16, go_sem, c0, c1, c2, c3]) rfl ⟨?_, (((hbw.setCell (Nat.le_refl _) _).setCell (Nat.le_refl _) _).setCell (Nat.le_refl _) _).setCell (Nat.le_refl _) _⟩
    rw [← Hv.out]
  · have htk : Lx.tok (s.data.toList.drop a.toNat) = Lx.tokSign (s.data.toList.drop a.toNat) := by
      rw [hdr, tok_cons]
      rw [if_neg (fun q => by have := (isDigit_iff _).1 q; omega), if_neg (fun q => by rw [q] at h; exact absurd h (by decide)), if_neg (fun q => by rw [q] at h; exact absurd h (by decide)), if_neg (fun q => by have := (isSmall_iff _).1 q; omega), if_neg (fun q => by have := (isGreat_iff _).1 q; omega), if_neg (fun q => by have q1 := q.1; rw [q1] at h; exact absurd h (by decide))]
    rw [htk]
    clear htk hdr h
    obtain ⟨x0, x1, x2, x3, r, hv⟩ := tokVal_form a (Lx.tokSign (s.data.toList.drop a.toNat))
    have Hv : Hid _ := hv
    clear hv
    go_enter Tryd.func16, Tryd.ntmps16
    go_wp2_with fail
    refine (setOf_any _ _).mono ?_
    rintro e w' ⟨rfl, rfl⟩
    go_wp2_with fail
    refine (readSign_any s a _ HL.out h0 h1 hs).mono ?_
    rintro e w1 ⟨rfl, hb1⟩
    rw [Hv.out]
    obtain ⟨c0, c1, c2, c3, f0, f1, f2, f3, hbw, hsz⟩ := box_tok hb1
    clear hb1
    go_wp2
    refine bodyPost_ret (v := .tuple #[.agg #[.int .i64 x0, .int .i64 x1, .string x2, .int .i64 x3], .int .i64 r]) (by simp [results, Tryd.results16, go_sem, c0, c1, c2, c3]) rfl ⟨?_, (((hbw.setCell (Nat.le_refl _) _).setCell (Nat.le_refl _) _).setCell (Nat.le_refl _) _).setCell (Nat.le_refl _) _⟩
    rw [← Hv.out]
end Go.Proofs.YtapdhlfgakbebaaDoor
