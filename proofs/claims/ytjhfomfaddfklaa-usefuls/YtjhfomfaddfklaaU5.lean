/-
  The document's layer matches: what a row asks for behind a first value (rest).
-/
import Derived.Test.YtjhfomfaddfklaaU4
namespace Go.Proofs.Ytjhfomfaddfklaa
open Go.RowKit Go.Deep
section
set_option maxHeartbeats 8000000
set_option maxRecDepth 100000
theorem grown_below {B : Nat} {w w' : World} {row : Option Nat} (h : w.grownBy w' row) (hr : ∀ k, row = some k → B ≤ k) (hB : B ≤ w.heap.size) : Below B w w' :=
  ⟨h.os, h.tape, h.output, h.size, fun k hk => h.block k (Nat.lt_of_lt_of_le hk hB) (fun e => by have := hr k e.symm; omega)⟩
/-- One pattern that everything matches, in cells of its own. -/
theorem row_any (wb w : World) : RowAt wb (w.alloc PC.any.obj) (some ⟨w.heap.size, 0, none⟩) [Pt.any] :=
  ⟨by simp [maxLen], fun i hi => by
    obtain rfl : i = 0 := by simpa using hi
    exact ⟨w.heap.size, 0, PC.any, rfl, by simpa using (pbox_new w PC.any).cells, PtIn.any wb⟩⟩
/-- The row that is given at the end. -/
theorem rest_end {wb w w5 w6 : World} {base : Nat} {v5 v6 : Value} {L5 L : List (PC × Pt)} {l : List Pt} (ho : OwnP wb w6 base v6 L) (hL : L.map (·.2) = l) (hm : L.length ≤ 1000000) (h5 : OwnP wb w5 base v5 L5) (hg : w5.grownBy w6 v5.ownBlock) (hw : Below w.heap.size w w5) (hb : w.heap.size ≤ base) :
    ∃ q cap, v6 = .slice q l.length cap ∧ l.length ≤ cap ∧ RowAt wb w6 q l ∧ (∀ b, q = some b → w.heap.size ≤ b.block ∧ b.block < w6.heap.size) ∧ Below w.heap.size w w6 := by
  obtain ⟨q, cap, h1, h2, h3⟩ := ho.at (by unfold maxLen; omega)
  have hq : ∀ b, q = some b → w.heap.size ≤ b.block ∧ b.block < w6.heap.size := fun b hq => by
    have hob : v6.ownBlock = some b.block := by rw [h1, hq]; rfl
    have := ho.row.lt _ hob
    omega
  have hl : L.length = l.length := by rw [← hL]; simp
  rw [hl] at h1 h2
  rw [hL] at h3
  exact ⟨q, cap, h1, h2, h3, hq, hw.trans (grown_below hg (fun k hk => Nat.le_trans hb (h5.row.lt k hk).1) hw.size)⟩
theorem rest_any (wb w : World) (p : Option Addr) (cap : Nat) (x : Pt) (r : List Pt) (h : PC) (Hh : Pt) (hw : Below wb.heap.size wb w) (hp : RowAt wb w p (x :: r)) (hh : PtIn wb h Hh) (hg : x.good = true) (hcap : r.length + 1 ≤ cap) (hl : r.length ≤ 300000) (hk : Hh.kids.length ≤ 1000) (hbk : (bareP x).kids.length ≤ 1000) :
    Calls Try.prog 34 #[.slice p (r.length + 1) cap, h.val] w fun e w' => RestPost wb (restP x r Hh) w e w' := by
  obtain ⟨b, o, c, rfl, hc6, hx⟩ := hp.get 0 (by simp)
  simp only [Nat.zero_mul, Nat.add_zero, List.getElem_cons_zero] at hc6 hx
  have hbx := pbox_new w h
  have hba : Below w.heap.size w (w.alloc h.obj) := (Below.refl _ _).alloc (Nat.le_refl _) _
  have hwa : Below wb.heap.size wb (w.alloc h.obj) := hw.trans (hba.mono hw.size)
  have Hcall : Hid _ := bare_any wb c x hx hg (w.alloc h.obj) hwa
  have hc6' := hc6.below hba
  have Hbx : Hid (PBox _ _ _) := hbx
  have Hrow : Hid (RowAt _ _ _ _) := hp.below hba
  have Hwa : Hid _ := hwa
  have Hba : Hid _ := hba
  have HH : Hid (PtIn wb h Hh) := hh
  clear hbx hp hwa hba hx hc6 hh hw
  have HhL : Hid (Hh.kids.length = h.len) := HH.out.parts.2.2.2.2.1
  obtain ⟨hk0, hn, ho, ha, hs, hp, hlen, hcap'⟩ := h
  simp only [PC.val, PC.obj] at *
  go_enter Try.func34, Try.ntmps34
  go_upto_region 1 with fail
  generalize w.alloc (Obj.cells #[Value.int IntKind.i64 hk0, Value.int IntKind.i64 hn, Value.int IntKind.i64 ho, Value.int IntKind.i64 ha, Value.string hs, Value.slice hp hlen hcap'] 26) = w1 at *
  obtain ⟨d0, d1, d2, d3, d4, d5⟩ := hc6'
  have hlt := World.block_lt_of_cell? _ _ d0
  obtain ⟨ck, cn, co, ca, cs, cp, cl, cc⟩ := c
  simp only at *
  go_wp2_with fail
  refine Calls.mono Hcall.out ?_
  rintro e1 w2 ⟨c2, rfl, hP2, hb2⟩
  obtain ⟨ck, cn, co, ca, cs, cp, cl, cc⟩ := c2
  have hB3 := pbox_new w2 ⟨ck, cn, co, ca, cs, cp, cl, cc⟩
  have hb3 : Below w2.heap.size w2 (w2.alloc (PC.obj ⟨ck, cn, co, ca, cs, cp, cl, cc⟩)) := (Below.refl _ _).alloc (Nat.le_refl _) _
  have H13 : Hid (Below w1.heap.size w1 _) := Below.then hb2 hb3 (Nat.le_refl _)
  have HB3 : Hid (PBox _ _ _) := hB3
  have HP2 : Hid (PtIn wb ⟨ck, cn, co, ca, cs, cp, cl, cc⟩ (bareP x)) := hP2
  have Hz : Hid (w1.heap.size ≤ w2.heap.size) := hb2.size
  clear d0 d1 d2 d3 d4 d5 hB3 hb3 hb2 hP2 Hcall
  simp only [PC.val, PC.obj] at *
  go_upto_region 3 with fail
  generalize w2.alloc (Obj.cells #[Value.int IntKind.i64 ck, Value.int IntKind.i64 cn, Value.int IntKind.i64 co, Value.int IntKind.i64 ca, Value.string cs, Value.slice cp cl cc] 26) = w3 at *
  generalize w2.heap.size = pb at *
  have hBp := PBox.below Hbx.out H13.out
  obtain ⟨x0, x1, x2, x3, x4, x5, x6⟩ := hBp.cells'
  obtain ⟨y0, y1, y2, y3, y4, y5, y6⟩ := PBox.cells' HB3.out
  have Hrow3 : Hid (RowAt _ _ _ _) := RowAt.below Hrow.out H13.out
  have HW3 : Hid (Below w.heap.size w w3) := Below.trans Hba.out (Below.mono H13.out (Below.size Hba.out))
  obtain ⟨hpk, _, _, _, hpl, _, _⟩ := PtIn.parts HP2.out
  simp only at hpk hpl
  clear Hrow Hbx
  by_cases hk0' : ck = 0
  · have hk' : (ck == 0) = true := by simpa using hk0'
    have HR : Hid (restP x r Hh = (List.replicate Hh.kids.length Pt.any ++ r, true)) := by unfold Hid restP; rw [if_pos (by rw [hpk]; exact hk0')]
    clear hk0' hpk
    have hhl := HhL.out
    have Hx : Hid (PBox w3 w.heap.size ⟨hk0, hn, ho, ha, hs, hp, hlen, hcap'⟩) := hBp
    have hlen1 : hlen ≤ 1000 := by omega
    have Hhl : Hid (Hh.kids.length = hlen) := hhl
    clear hhl hBp x0 x1 x2 x3 x4 y1 y2 y3 y4 y5
    have hz3 : w.heap.size ≤ w3.heap.size := Below.size HW3.out
    go_wp2_with fail
    go_loopg [7, 8] hlen (fun g v iv wr => ∃ (i : Nat) (L : List (PC × Pt)) (v' : Value), v' = v ∧ iv = .int .i64 i ∧ i ≤ hlen ∧ g = hlen - i ∧ Hid (OwnP wb wr w3.heap.size v' L ∧ L.map (·.2) = List.replicate i Pt.any ∧ Below w3.heap.size w3 wr))
    case atStart => exact ⟨0, [], _, rfl, rfl, by omega, by omega, OwnP.nil _ _ _, rfl, Below.refl _ _⟩
    case round =>
      obtain ⟨i, L, v7, hv7, rfl, hi1, rfl, HL⟩ := hrel
      subst hv7
      obtain ⟨q1, q2, q3⟩ := HL.out
      clear HL x5 x6
      obtain ⟨_, _, _, _, _, x5, x6⟩ := PBox.cells' (PBox.below Hx.out q3)
      have hLl : L.length = i := by have := congrArg List.length q2; simpa using this
      by_cases hi : i < hlen
      · have hi' : (i : Int) < hlen := by omega
        have hq : OwnP wb (wr.alloc PC.any.obj) w3.heap.size v7 L := q1.below ((Below.refl _ _).alloc (Nat.le_refl _) _)
        have hro := row_any wb wr
        have hz7 : w3.heap.size ≤ (wr.alloc PC.any.obj).heap.size := by have := q3.size; simp; omega
        have Q1 : Hid _ := q1
        have Q2 : Hid (L.map (·.2) = List.replicate i Pt.any) := q2
        have Q3 : Hid (Below w3.heap.size w3 wr) := q3
        have hLb : L.length + 1 ≤ 1000000 := by omega
        clear q1 q2 q3 hLl
        go_wp2_with (at_builtin; refine wpList_append_row (l := [Pt.any]) rfl _ _ rfl hq hro (fun e => by cases e) hLb hz7 rfl rfl ?_)
        intro v6 w6 L6 ho6 hL6 hg6
        replace ho6 := ho6.out
        replace hL6 := hL6.out
        replace hg6 := hg6.out
        replace hL6 : L6.map (·.2) = [Pt.any] := by simpa using hL6
        have hb6 : Below w3.heap.size w3 w6 := by
          have h1 : Below w3.heap.size w3 (wr.alloc PC.any.obj) := Q3.out.alloc Q3.out.size _
          exact h1.trans (grown_below hg6 (fun k hk => (hq.row.lt k hk).1) h1.size)
        have Q : Hid (OwnP wb w6 w3.heap.size v6 (L ++ L6) ∧ (L ++ L6).map (·.2) = List.replicate (i + 1) Pt.any ∧ Below w3.heap.size w3 w6) := ⟨ho6, by rw [List.map_append, Q2.out, hL6, List.replicate_succ'], hb6⟩
        clear ho6 hL6 hg6 hb6 hq hro x5
        go_wp2
        go_roundg (hlen - (i + 1))
        case measure => omega
        case rel => exact ⟨i + 1, _, _, rfl, by first | rfl | (congr 1; omega) | go_num, by omega, rfl, Q⟩
      · have hi' : ¬ (i : Int) < hlen := by omega
        have he : i = hlen := by omega
        have Hrow5 : Hid (RowAt _ _ _ _) := RowAt.below Hrow3.out q3
        have HW5 : Hid (Below w.heap.size w wr) := Below.then HW3.out q3 (Nat.le_refl _)
        have HO5 : Hid (OwnP wb wr w3.heap.size v7 L) := q1
        have HL5 : Hid (L.map (·.2) = List.replicate Hh.kids.length Pt.any) := by unfold Hid; rw [q2, Hhl.out, he]
        have hz5 := q3.size
        clear q1 q2 q3 he
        go_upto_region 8 with fail
        clear x5 x6
        by_cases hc1 : cap = 1
        · have hr0 : r = [] := List.eq_nil_of_length_eq_zero (by omega)
          subst hr0
          subst hc1
          have hown5 := HO5.out
          go_wp2_with (at_builtin; refine wpList_append_row rfl _ _ rfl hown5 (RowAt.nil wb wr (some ⟨b, o, none⟩)) (fun e => by cases e) (by simp; omega) hz5 rfl rfl ?_)
          intro v6 w6 L6 ho6 hL6 hg6
          replace ho6 := ho6.out
          replace hL6 := hL6.out
          replace hg6 := hg6.out
          have Q := rest_end ho6 (by rw [List.map_append, HL5.out, hL6]) (by have := congrArg List.length hL6; simp at this; simp [this]; omega) HO5.out hg6 HW5.out hz3
          obtain ⟨q, qc, rfl, hq1, hq2, hq4, hq3⟩ := Q
          clear ho6 hL6 hg6 hown5
          go_wp2
          exact bodyPost_ret (v := .tuple #[.slice q (List.replicate Hh.kids.length Pt.any ++ []).length qc, .bool true]) (by simp [results, Try.results34, go_sem]) rfl (by rw [HR.out]; exact RestPost.mk q qc rfl hq1 hq2 hq4 hq3)
        · have hc1' : 1 < cap := by omega
          have hown5 := HO5.out
          have hrt := Hrow5.out.tail
          go_wp2_with (at_builtin; refine wpList_append_row rfl _ _ rfl hown5 hrt (fun e => by cases e) (by omega) hz5 rfl rfl ?_)
          intro v6 w6 L6 ho6 hL6 hg6
          replace ho6 := ho6.out
          replace hL6 := hL6.out
          replace hg6 := hg6.out
          have Q := rest_end ho6 (by rw [List.map_append, HL5.out, hL6]) (by have := congrArg List.length hL6; simp at this; simp [this]; omega) HO5.out hg6 HW5.out hz3
          obtain ⟨q, qc, rfl, hq1, hq2, hq4, hq3⟩ := Q
          clear ho6 hL6 hg6 hown5 hrt
          go_wp2
          exact bodyPost_ret (v := .tuple #[.slice q (List.replicate Hh.kids.length Pt.any ++ r).length qc, .bool true]) (by simp [results, Try.results34, go_sem]) rfl (by rw [HR.out]; exact RestPost.mk q qc rfl hq1 hq2 hq4 hq3)
  · have hk' : (ck == 0) = false := by simpa using hk0'
    have HR : Hid (restP x r Hh = ((bareP x).kids ++ r, alikeP (bareP x) Hh)) := by unfold Hid restP; rw [if_neg (by rw [hpk]; exact hk0')]
    have Hal : Hid _ := alikeC_any ⟨ck, cn, co, ca, cs, cp, cl, cc⟩ ⟨hk0, hn, ho, ha, hs, hp, hlen, hcap'⟩ w3
    rw [alike_eq HP2.out HH.out] at Hal
    simp only [PC.val] at Hal
    clear hk0'
    go_wp2_with fail
    refine Calls.mono Hal.out ?_
    rintro e4 w4 ⟨rfl, hb4⟩
    have hB4 := PBox.below HB3.out hb4
    clear x0 x1 x2 x3 x4 x5 x6 y0 y1 y2 y3 y4 y5 y6
    obtain ⟨y0, y1, y2, y3, y4, y5, y6⟩ := hB4.cells'
    have hw4 : Below wb.heap.size wb w4 := Below.trans Hwa.out ((Below.then H13.out hb4 (Nat.le_refl _)).mono (Below.size Hwa.out))
    have hkr : RowAt wb w4 cp (bareP x).kids := PtIn.row HP2.out hw4
    have hkz : cp = none → (bareP x).kids.length = 0 ∧ cc = 0 := fun e => by have := PtIn.none HP2.out e; simp only at this; omega
    have Hrow4 : Hid (RowAt _ _ _ _) := RowAt.below Hrow3.out hb4
    have HW4 : Hid (Below w.heap.size w w4) := Below.then HW3.out hb4 (Nat.le_refl _)
    have hown0 := OwnP.nil wb w4 w4.heap.size
    clear hB4 hb4 Hal
    generalize alikeP (bareP x) Hh = AL at *
    subst hpl
    go_wp2_with (at_builtin; refine wpList_append_row rfl _ _ rfl hown0 hkr hkz (by simp; omega) (Nat.le_refl _) rfl rfl ?_)
    intro v5 w5 L5 ho5 hL5 hg5
    replace ho5 := ho5.out
    replace hL5 := hL5.out
    replace hg5 := hg5.out
    have hb5 : Below w4.heap.size w4 w5 := grown_below hg5 (fun k hk => by simp [Value.ownBlock] at hk) (Nat.le_refl _)
    have Hrow5 : Hid (RowAt _ _ _ _) := RowAt.below Hrow4.out hb5
    have HO5 : Hid (OwnP wb w5 w4.heap.size v5 L5) := ho5
    have HL5 : Hid (L5.map (·.2) = (bareP x).kids) := hL5
    have HW5 : Hid (Below w.heap.size w w5) := Below.then HW4.out hb5 (Nat.le_refl _)
    have hz5 := hb5.size
    clear ho5 hL5 hg5 hb5 hkr hkz hown0 y0 y1 y2 y3 y4 y5
    go_upto_region 11 with fail
    by_cases hc1 : cap = 1
    · have hr0 : r = [] := List.eq_nil_of_length_eq_zero (by omega)
      subst hr0
      subst hc1
      have hown5 := HO5.out
      have hL5l : L5.length ≤ 1000 := by have := congrArg List.length HL5.out; simp at this; omega
      go_wp2_with (at_builtin; refine wpList_append_row rfl _ _ rfl hown5 (RowAt.nil wb w5 (some ⟨b, o, none⟩)) (fun e => by cases e) (by simp; omega) hz5 rfl rfl ?_)
      intro v6 w6 L6 ho6 hL6 hg6
      replace ho6 := ho6.out
      replace hL6 := hL6.out
      replace hg6 := hg6.out
      have Q := rest_end ho6 (by rw [List.map_append, HL5.out, hL6]) (by have := congrArg List.length hL6; simp at this; simp [this]; omega) HO5.out hg6 HW5.out (Below.size HW4.out)
      obtain ⟨q, qc, rfl, hq1, hq2, hq4, hq3⟩ := Q
      clear ho6 hL6 hg6 hown5
      go_wp2
      exact bodyPost_ret (v := .tuple #[.slice q ((bareP x).kids ++ []).length qc, .bool AL]) (by simp [results, Try.results34, go_sem]) rfl (by rw [HR.out]; exact RestPost.mk q qc rfl hq1 hq2 hq4 hq3)
    · have hc1' : 1 < cap := by omega
      have hown5 := HO5.out
      have hL5l : L5.length ≤ 1000 := by have := congrArg List.length HL5.out; simp at this; omega
      have hrt := Hrow5.out.tail
      go_wp2_with (at_builtin; refine wpList_append_row rfl _ _ rfl hown5 hrt (fun e => by cases e) (by omega) hz5 rfl rfl ?_)
      intro v6 w6 L6 ho6 hL6 hg6
      replace ho6 := ho6.out
      replace hL6 := hL6.out
      replace hg6 := hg6.out
      have Q := rest_end ho6 (by rw [List.map_append, HL5.out, hL6]) (by have := congrArg List.length hL6; simp at this; simp [this]; omega) HO5.out hg6 HW5.out (Below.size HW4.out)
      obtain ⟨q, qc, rfl, hq1, hq2, hq4, hq3⟩ := Q
      clear ho6 hL6 hg6 hown5 hrt
      go_wp2
      exact bodyPost_ret (v := .tuple #[.slice q ((bareP x).kids ++ r).length qc, .bool AL]) (by simp [results, Try.results34, go_sem]) rfl (by rw [HR.out]; exact RestPost.mk q qc rfl hq1 hq2 hq4 hq3)
end
end Go.Proofs.Ytjhfomfaddfklaa
