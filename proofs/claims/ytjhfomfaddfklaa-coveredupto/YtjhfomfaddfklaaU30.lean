/-
  The law Covered, walked by what the program's own Useful is said to do.
-/
import Derived.Test.YtjhfomfaddfklaaU29
import Derived.Deep.DeepCutAuto
namespace Go.Proofs.Ytjhfomfaddfklaa
open Go.RowKit Go.Deep
section
set_option maxHeartbeats 16000000
set_option maxRecDepth 100000
theorem covered_any (hU : UsOk 8) (wb w : World) (raw : List Pt) (pr : Option Addr) (cap : Nat) (hw : Below wb.heap.size wb w) (hR : RowAt wb w pr raw) (hRl : ∀ x ∈ raw, x.low = true ∧ cntP x ≤ 2000000) (c1 : PC) (P1 : Pt) (hP1 : PtIn wb c1 P1) (hl1 : P1.low = true ∧ cntP P1 ≤ 2000000) (c2 : PC) (P2 : Pt) (hP2 : PtIn wb c2 P2) (hl2 : P2.low = true) (sort : Int) (hs : -9223372036854775808 ≤ sort) :
    Calls Try.prog 4 #[.slice pr raw.length cap, c1.val, c2.val, .int .i64 sort] w fun e w' => e = .returned (.bool true) ∧ Below w.heap.size w w' := by
  have hps := pick_low sort 6 (by decide)
  obtain ⟨t, ht, hnr⟩ := sort_six (pickP sort 6) hps.1 hps.2
  have Hpick : Hid (∀ wx, _) := fun wx => pick_any sort 6 hs (by decide) wx
  rw [← hnr] at Hpick
  have HfitV : Hid (∀ wx, Below w.heap.size w wx → _) := fun wx hx => fitted_any wb c2 P2 hP2 hl2 t ht true wx (hw.trans (hx.mono hw.size))
  have HfitQ : Hid (∀ wx, Below w.heap.size w wx → _) := fun wx hx => fitted_any wb c1 P1 hP1 hl1.1 t ht false wx (hw.trans (hx.mono hw.size))
  have HfitR : Hid (∀ i (hi : i < raw.length), ∃ b o c, pr = some ⟨b, o, none⟩ ∧ Cells6 w b (o + i * 6) c ∧ cntP (raw[i]'hi) ≤ 2000000 ∧ ∀ wx, Below w.heap.size w wx → Calls Try.prog 9 #[c.val, .int .i64 t.nr, .bool false] wx fun e w' => FitPost (12 * cntP (raw[i]'hi)) t false wx e w') := fun i hi => by
    obtain ⟨b, o, c, h1, h2, h3⟩ := hR.get i hi
    exact ⟨b, o, c, h1, h2, (hRl _ (List.getElem_mem hi)).2, fun wx hx => fitted_any wb c _ h3 (hRl _ (List.getElem_mem hi)).1 t ht false wx (hw.trans (hx.mono hw.size))⟩
  have hq1 : cntP P1 ≤ 2000000 := hl1.2
  have hrl := hR.len
  unfold maxLen at hrl
  have HU : Hid (UsOk 8) := hU
  have hw2' := below2 w c1.obj c2.obj
  have hb1 := (pbox_new w c1).below ((Below.refl _ _).alloc (Nat.le_refl _) c2.obj)
  have hb2 := pbox_new (w.alloc c1.obj) c2
  have e1 : (w.alloc c1.obj).heap.size = w.heap.size + 1 := by simp
  rw [e1] at hb2
  have Hb1 : Hid (PBox _ _ _) := hb1
  have Hb2 : Hid (PBox _ _ _) := hb2
  have Hw2 : Hid (Below _ w _) := hw2'
  clear hw2' hb1 hb2 e1 hps hnr hs hR hRl hP1 hP2 hl1 hl2 hU hw
  generalize t.nr = tn at *
  obtain ⟨k1, n1, o1, a1, s1, p1, len1, cap1⟩ := c1
  obtain ⟨k2, n2, o2, a2, s2, p2, len2, cap2⟩ := c2
  simp only [PC.val, PC.obj] at *
  go_enter Try.func4, Try.ntmps4
  go_upto_region 1 with fail
  generalize (w.alloc (Obj.cells #[Value.int IntKind.i64 k1, Value.int IntKind.i64 n1, Value.int IntKind.i64 o1, Value.int IntKind.i64 a1, Value.string s1, Value.slice p1 len1 cap1] 26)).alloc (Obj.cells #[Value.int IntKind.i64 k2, Value.int IntKind.i64 n2, Value.int IntKind.i64 o2, Value.int IntKind.i64 a2, Value.string s2, Value.slice p2 len2 cap2] 26) = w2 at *
  go_wp2_with (go_at_call 7; refine Calls.mono (Hpick.out _) ?_; rintro e w' ⟨rfl, rfl⟩)
  rename World => w2
  refine (con_any 1 2 w2).mono ?_
  rintro e1 w3 ⟨rfl, hb3⟩
  have HB1 : Hid (PBox w3 _ _) := PBox.below Hb1.out hb3
  have HB2 : Hid (PBox w3 _ _) := PBox.below Hb2.out hb3
  have HW3 : Hid (Below w.heap.size w w3) := Below.then Hw2.out hb3 (Nat.le_refl _)
  clear hb3 Hb1 Hb2 Hw2 Hpick
  go_wp2_with fail
  have hc0 : Cells6 (w3.alloc (PC.obj ⟨6, 1, 2, 0, { data := #[] }, none, 0, 0⟩)) w3.heap.size 0 ⟨6, 1, 2, 0, { data := #[] }, none, 0, 0⟩ := (pbox_new w3 _).cells
  have h34 : Below w3.heap.size w3 (w3.alloc (PC.obj ⟨6, 1, 2, 0, { data := #[] }, none, 0, 0⟩)) := (Below.refl _ _).alloc (Nat.le_refl _) _
  have Hc0 : Hid (Cells6 _ _ _ _) := hc0
  have Hb1 : Hid (PBox _ _ _) := PBox.below HB1.out h34
  have Hb2 : Hid (PBox _ _ _) := PBox.below HB2.out h34
  have Hw4 : Hid (Below w.heap.size w _) := Below.then HW3.out h34 (Nat.le_refl _)
  clear hc0 h34 HB1 HB2 HW3
  simp only [PC.obj] at Hc0 Hw4 Hb1 Hb2
  generalize w3.alloc (Obj.cells #[Value.int IntKind.i64 6, Value.int IntKind.i64 1, Value.int IntKind.i64 2, Value.int IntKind.i64 0, Value.string { data := #[] }, Value.slice none 0 0] 26) = w4 at *
  generalize w3.heap.size = b3 at *
  refine (con_any 0 2 w4).mono ?_
  rintro e2 w5 ⟨rfl, hb5⟩
  have hl := lay3 w5 b3 ⟨6, 1, 2, 0, { data := #[] }, none, 0, 0⟩ ⟨6, 0, 2, 0, { data := #[] }, none, 0, 0⟩ (.mk 6 1 2 0 { data := #[] } []) (.mk 6 0 2 0 { data := #[] } []) (Cells6.below Hc0.out hb5) (fun wx => leaf wx 6 1 2 (by decide)) (fun wx => leaf wx 6 0 2 (by decide))
  obtain ⟨hl1, hl2, hl3⟩ := hl
  have h46 := Below.then hb5 hl3 (Nat.le_refl _)
  have Hcall : Hid _ := HU.out _ _ [[.mk 6 1 2 0 { data := #[] } []], [.mk 6 0 2 0 { data := #[] } []]] [Pt.any] (some ⟨w5.heap.size + 1, 0, none⟩) 2 (some ⟨w5.heap.size + 1 + 1, 0, none⟩) 1 (Below.refl _ _) hl1 hl2 (Nat.le_refl _) (Nat.le_refl _) (by simp)
  rw [both_all] at Hcall
  have HB1 : Hid (PBox _ _ _) := PBox.below Hb1.out h46
  have HB2 : Hid (PBox _ _ _) := PBox.below Hb2.out h46
  have HW6 : Hid (Below w.heap.size w _) := Below.then Hw4.out h46 (Nat.le_refl _)
  clear hl1 hl2 hl3 hb5 h46 Hc0 Hb1 Hb2 Hw4
  simp only [PC.obj, PC.any, List.length_cons, List.length_nil, Nat.zero_add, Nat.reduceAdd] at Hcall HW6 HB1 HB2
  go_wp2_with fail
  refine Calls.mono Hcall.out ?_
  rintro e3 w7 ⟨rfl, hb7⟩
  have hE : EBox (w7.alloc (Obj.cells #[Value.int IntKind.i64 0, Value.int IntKind.i64 0] 31)) w7.heap.size 0 0 := (MapKept.heap_alloc w7 _).1
  have h78 := hb7.alloc hb7.size (Obj.cells #[Value.int IntKind.i64 0, Value.int IntKind.i64 0] 31)
  have HE : Hid (EBox _ _ _ _) := hE
  have Hb1 : Hid (PBox _ _ _) := PBox.below HB1.out h78
  have Hb2 : Hid (PBox _ _ _) := PBox.below HB2.out h78
  have Hw8 : Hid (Below w.heap.size w _) := Below.then HW6.out h78 (Nat.le_refl _)
  have Hfb : Hid (w.heap.size ≤ w7.heap.size) := Nat.le_trans (Below.size HW6.out) hb7.size
  clear hE h78 hb7 HB1 HB2 HW6 Hcall
  go_upto_region 3 with fail
  have Hf8 : Hid (w7.heap.size + 1 = (w7.alloc (Obj.cells #[Value.int IntKind.i64 0, Value.int IntKind.i64 0] 31)).heap.size) := by unfold Hid; simp
  generalize w7.alloc (Obj.cells #[Value.int IntKind.i64 0, Value.int IntKind.i64 0] 31) = w8 at *
  generalize w7.heap.size = fb at *
  obtain ⟨x0, x1, x2⟩ := EBox.cells HE.out
  go_upto_region 5 with fail
  obtain ⟨y0, y1, y2, y3, y4, y5, y6⟩ := PBox.cells' Hb2.out
  simp only at y0 y1 y2 y3 y4 y5 y6
  clear x0 x1 x2
  go_wp2_with fail
  refine Calls.mono (HfitV.out w8 Hw8.out) ?_
  rintro e4 w9 ⟨cv, V, rfl, hV, hVg, hVz, hVw, hVv, hb9, hVn⟩
  have hVv' : VT t V := hVv rfl
  clear hVv
  have h9a : Below w9.heap.size w9 (w9.alloc cv.obj) := (Below.refl _ _).alloc (Nat.le_refl _) _
  have h8a : Below w8.heap.size w8 (w9.alloc cv.obj) := Below.then hb9 h9a (Nat.le_refl _)
  have HVin : Hid (Fresh (fb + 1) (w9.alloc cv.obj) cv V) := (hV.keep h9a).low (Nat.le_of_eq Hf8.out)
  have HVl : Hid (fb < w9.heap.size) := Nat.lt_of_lt_of_le (by rw [← Hf8.out]; exact Nat.lt_succ_self _) hb9.size
  have HVb : Hid (PBox (w9.alloc cv.obj) w9.heap.size cv) := pbox_new w9 cv
  have HB1 : Hid (PBox _ _ _) := PBox.below Hb1.out h8a
  have HE9 : Hid (EBox _ _ _ _) := EBox.below HE.out h8a
  have Hwa : Hid (Below w.heap.size w _) := Below.then Hw8.out h8a (Nat.le_refl _)
  clear h9a h8a hV hb9 Hb1 Hb2 HE Hw8 y0 y1 y2 y3 y4 y5 y6 HfitV hVn hVg hVz hVw
  obtain ⟨kv, nv, ov, av, sv, pv, lenv, capv⟩ := cv
  simp only [PC.val, PC.obj] at *
  go_upto_region 6 with fail
  generalize w9.alloc (Obj.cells #[Value.int IntKind.i64 kv, Value.int IntKind.i64 nv, Value.int IntKind.i64 ov, Value.int IntKind.i64 av, Value.string sv, Value.slice pv lenv capv] 26) = wa at *
  generalize w9.heap.size = vb at *
  obtain ⟨y0, y1, y2, y3, y4, y5, y6⟩ := PBox.cells' HB1.out
  simp only at y0 y1 y2 y3 y4 y5 y6
  go_wp2_with fail
  refine Calls.mono (HfitQ.out wa Hwa.out) ?_
  rintro e4 w9 ⟨cq, Q, rfl, hQ, hQg, hQz, hQw, _, hb9, hQn⟩
  have h9a : Below w9.heap.size w9 (w9.alloc cq.obj) := (Below.refl _ _).alloc (Nat.le_refl _) _
  have h8a : Below wa.heap.size wa (w9.alloc cq.obj) := Below.then hb9 h9a (Nat.le_refl _)
  have HQin : Hid (Fresh (fb + 1) (w9.alloc cq.obj) cq Q) := (hQ.keep h9a).low (EBox.lt HE9.out)
  have HQl : Hid (fb < w9.heap.size) := Nat.lt_of_lt_of_le (EBox.lt HE9.out) hb9.size
  have HQb : Hid (PBox (w9.alloc cq.obj) w9.heap.size cq) := pbox_new w9 cq
  have HVin' : Hid (Fresh (fb + 1) _ _ V) := Fresh.keep HVin.out h8a
  have HVb' : Hid (PBox _ vb _) := PBox.below HVb.out h8a
  have HE' : Hid (EBox _ _ _ _) := EBox.below HE9.out h8a
  have Hwc : Hid (Below w.heap.size w _) := Below.then Hwa.out h8a (Nat.le_refl _)
  have hQc : cntP Q ≤ 24000000 := by omega
  have Hne : Hid (Fit t Q) := ⟨hQg, hQz, hQw⟩
  clear h9a h8a hQ hb9 HB1 HE9 Hwa y0 y1 y2 y3 y4 y5 y6 HfitQ HVin HVb hQn hq1 hQg hQz hQw
  obtain ⟨kq, nq, oq, aq, sq, pq, lenq, capq⟩ := cq
  simp only [PC.val, PC.obj] at *
  go_upto_region 7 with fail
  generalize w9.alloc (Obj.cells #[Value.int IntKind.i64 kq, Value.int IntKind.i64 nq, Value.int IntKind.i64 oq, Value.int IntKind.i64 aq, Value.string sq, Value.slice pq lenq capq] 26) = wa at *
  generalize w9.heap.size = qb at *
  obtain ⟨y0, y1, y2, y3, y4, y5, y6⟩ := PBox.cells' HQb.out
  simp only at y0 y1 y2 y3 y4 y5 y6
  have Hcnt : Hid (∀ wx, Below wa.heap.size wa wx → _) := fun wx hx => count_any wa _ Q (Fresh.in_ HQin.out) wx hx
  rw [show wrap64 (cntP Q : Int) = cntP Q by unfold wrap64; omega] at Hcnt
  simp only [PC.val] at Hcnt
  go_wp2_with fail
  refine Calls.mono (Hcnt.out wa (Below.refl _ _)) ?_
  rintro e4 w9 ⟨rfl, hb9⟩
  have HE : Hid (EBox _ _ _ _) := EBox.below HE'.out hb9
  have HQb2 : Hid (PBox _ _ _) := PBox.below HQb.out hb9
  have HVb2 : Hid (PBox _ _ _) := PBox.below HVb'.out hb9
  have HQin2 : Hid (Fresh (fb + 1) w9 _ Q) := Fresh.keep HQin.out hb9
  have HVin2 : Hid (Fresh (fb + 1) w9 _ V) := Fresh.keep HVin'.out hb9
  have Hw9 : Hid (Below w.heap.size w w9) := Below.then Hwc.out hb9 (Nat.le_refl _)
  clear hb9 HE' HQb HVb' HQin HVin' Hwc Hcnt y0 y1 y2 y3 y4 y5 y6
  go_upto_block 0 with fail
  go_cut [14, 15, 16] from 50 to 83 (fun nv rv sv wx => Hid (∃ (l : List Pt) (M : List RC) (n : Nat) (v : Value) (s : Bool), nv = .int .i64 n ∧ rv = v ∧ sv = .bool s ∧ Own1 wx w9.heap.size v l M ∧ M.length ≤ 20 ∧ (∀ x ∈ l, Fit t x) ∧ s = l.any (fun x => hasP x V) ∧ (cntP Q ≤ 150 → cntR l + cntP Q ≤ 150) ∧ (n + 1 ≤ 150 → cntR l + 1 ≤ 150) ∧ n ≤ 100000000 ∧ Below w9.heap.size w9 wx))
  case first =>
    go_wp2_with fail
    go_loopg [14, 15, 16, 17] 20 (fun g nv rv sv iv wr => ∃ (i : Nat) (l : List Pt) (M : List RC) (n : Nat) (v : Value) (s : Bool), nv = .int .i64 n ∧ v = rv ∧ sv = .bool s ∧ iv = .int .i64 i ∧ i ≤ 20 ∧ n ≤ 24000150 ∧ g = 20 - i ∧ Hid (n = cntR l + cntP Q ∧ Own1 wr w9.heap.size v l M ∧ M.length ≤ i ∧ (∀ x ∈ l, Fit t x) ∧ s = l.any (fun x => hasP x V) ∧ (l = [] ∨ n ≤ 150) ∧ Below w9.heap.size w9 wr))
    case atStart => exact ⟨0, [], [], cntP Q, _, false, rfl, rfl, rfl, rfl, by omega, by omega, by omega, by simp [cntR], Own1.nil _ _, by simp, (fun x hx => by cases hx), rfl, .inl rfl, Below.refl _ _⟩
    case round =>
      obtain ⟨i, l, M, n, v, s, rfl, hv, rfl, rfl, hi1, hn1, rfl, HL⟩ := hrel
      subst hv
      by_cases hi : i < raw.length ∧ i < 20
      · obtain ⟨hi, hi20⟩ := hi
        have hi' : (i : Int) < raw.length := by omega
        have hi20' : (i : Int) < 20 := by omega
        obtain ⟨rb, ro, rc, hpr, hrc, hrcnt, hfit⟩ := HfitR.out i hi
        have hwr : Below w.heap.size w wr := Below.then Hw9.out HL.out.2.2.2.2.2.2 (Nat.le_refl _)
        obtain ⟨d0, d1, d2, d3, d4, d5⟩ := hrc.below hwr
        have hbl := World.block_lt_of_cell? _ _ d0
        have Hcall : Hid _ := hfit wr hwr
        subst hpr
        clear hfit hrc hwr
        generalize cntP (raw[i]'hi) = rn at *
        go_wp2_with fail
        refine Calls.mono Hcall.out ?_
        rintro e4 w10 ⟨cp, P, rfl, hP, hPg, hPz, hPw, _, hb10, hPn⟩
        have h9a : Below w10.heap.size w10 (w10.alloc cp.obj) := (Below.refl _ _).alloc (Nat.le_refl _) _
        have hra : Below wr.heap.size wr (w10.alloc cp.obj) := Below.then hb10 h9a (Nat.le_refl _)
        have HPb : Hid (PBox (w10.alloc cp.obj) w10.heap.size cp) := pbox_new w10 cp
        have HPf : Hid (Fresh wr.heap.size (w10.alloc cp.obj) cp P) := hP.keep h9a
        have HFit : Hid (Fit t P) := ⟨hPg, hPz, hPw⟩
        have Hra : Hid (Below wr.heap.size wr _) := hra
        have hPc : cntP P ≤ 24000000 := by omega
        clear h9a hra hP hb10 hPg hPz hPw hPn hrcnt d0 d1 d2 d3 d4 d5 hbl Hcall
        obtain ⟨kp, np, op, ap, sp, pp, lenp, capp⟩ := cp
        simp only [PC.val, PC.obj] at *
        go_upto_region 14 with fail
        generalize w10.alloc (Obj.cells #[Value.int IntKind.i64 kp, Value.int IntKind.i64 np, Value.int IntKind.i64 op, Value.int IntKind.i64 ap, Value.string sp, Value.slice pp lenp capp] 26) = wa at *
        generalize w10.heap.size = pb at *
        obtain ⟨y0, y1, y2, y3, y4, y5, y6⟩ := PBox.cells' HPb.out
        simp only at y0 y1 y2 y3 y4 y5 y6
        have Hcnt : Hid _ := count_any wa _ P (Fresh.in_ HPf.out) wa (Below.refl _ _)
        rw [show wrap64 (cntP P : Int) = cntP P by unfold wrap64; omega] at Hcnt
        simp only [PC.val] at Hcnt
        obtain ⟨pc, hpc⟩ : ∃ pc, pc = cntP P := ⟨_, rfl⟩
        have Hpc : Hid (pc = cntP P) := hpc
        rw [← hpc] at Hcnt hPc
        clear hpc
        have hwrap : wrap64 ((n : Int) + (pc : Int)) = ((n + pc : Nat) : Int) := by unfold wrap64; omega
        go_wp2_with fail
        refine Calls.mono Hcnt.out ?_
        rintro e4 wc ⟨rfl, hbc⟩
        have HPb2 : Hid (PBox _ _ _) := PBox.below HPb.out hbc
        have HPf2 : Hid (Fresh wr.heap.size wc _ P) := Fresh.keep HPf.out hbc
        have Hrc : Hid (Below wr.heap.size wr wc) := Below.then Hra.out hbc (Nat.le_refl _)
        clear hbc HPb HPf Hra Hcnt y0 y1 y2 y3 y4 y5 y6
        go_upto_region 15 with fail
        clear hwrap
        by_cases hbig : n + pc ≤ 150
        · have hbig' : (n : Int) + pc ≤ 150 := by omega
          have hv9 : Below w9.heap.size w9 wc := Below.then HL.out.2.2.2.2.2.2 Hrc.out (Nat.le_refl _)
          have Hhas : Hid _ := has_any wc _ P (Fresh.in_ HPf2.out) HFit.out.good _ V (Fresh.in_ (Fresh.keep HVin2.out hv9)) wc (Below.refl _ _)
          obtain ⟨y0, y1, y2, y3, y4, y5, y6⟩ := PBox.cells' HPb2.out
          obtain ⟨z0, z1, z2, z3, z4, z5, z6⟩ := PBox.cells' (PBox.below HVb2.out hv9)
          simp only at y0 y1 y2 y3 y4 y5 y6 z0 z1 z2 z3 z4 z5 z6
          simp only [PC.val] at Hhas
          obtain ⟨hb, hhb⟩ : ∃ hb, hb = hasP P V := ⟨_, rfl⟩
          rw [← hhb] at Hhas
          have Hhb : Hid (hb = hasP P V) := hhb
          clear hhb hv9
          go_wp2_with fail
          refine Calls.mono Hhas.out ?_
          rintro e4 wd ⟨rfl, hbd⟩
          have hrd : Below wr.heap.size wr wd := Below.then Hrc.out hbd (Nat.le_refl _)
          have HPb3 : Hid (PBox _ _ _) := PBox.below HPb2.out hbd
          have HPf3 : Hid (Fresh wr.heap.size wd _ P) := Fresh.keep HPf2.out hbd
          have Hrd : Hid (Below wr.heap.size wr wd) := hrd
          clear hbd hrd HPb2 HPf2 Hrc Hhas y0 y1 y2 y3 y4 y5 y6 z0 z1 z2 z3 z4 z5 z6
          go_upto_region 17 with fail
          obtain ⟨s', hs'⟩ : ∃ s', s' = (s || hb) := ⟨_, rfl⟩
          have Hs' : Hid (s' = (s || hb)) := hs'
          go_cut [16] from 50 to 83 (fun b wx => b = .bool s' ∧ wx = wd)
          case first =>
            cases s with
            | true =>
              simp only [Bool.true_or] at hs'
              subst hs'
              go_wp2
              go_meet
              exact ⟨rfl, rfl⟩
            | false =>
              simp only [Bool.false_or] at hs'
              subst hs'
              go_wp2
              go_meet
              exact ⟨rfl, rfl⟩
          case rest =>
            obtain ⟨rfl, rfl⟩ := hcut
            clear hs'
            rename World => wd
            obtain ⟨y0, y1, y2, y3, y4, y5, y6⟩ := PBox.cells' HPb3.out
            simp only at y0 y1 y2 y3 y4 y5 y6
            obtain ⟨q1, q2, q3, q4, q5, q6, q7⟩ := HL.out
            clear HL
            have hde : Below wd.heap.size wd (wd.alloc (PC.obj ⟨kp, np, op, ap, sp, pp, lenp, capp⟩)) := (Below.refl _ _).alloc (Nat.le_refl _) _
            have hre := Below.then Hrd.out hde (Nat.le_refl _)
            have hown := q2.below hre
            have hlt : ∀ k, v.ownBlock = some k → k < wr.heap.size := fun k hk => (q2.row.lt k hk).2
            have hsz := Below.size Hrd.out
            have hoff : Off w9.heap.size v.ownBlock (wd.alloc (PC.obj ⟨kp, np, op, ap, sp, pp, lenp, capp⟩)) ⟨kp, np, op, ap, sp, pp, lenp, capp⟩ P := (Fresh.keep HPf3.out hde).off hlt q7.size
            have hcell : Cells6 (wd.alloc (PC.obj ⟨kp, np, op, ap, sp, pp, lenp, capp⟩)) wd.heap.size 0 ⟨kp, np, op, ap, sp, pp, lenp, capp⟩ := (pbox_new wd _).cells
            have hne : Hid (v.ownBlock ≠ some wd.heap.size) := fun e => by have := hlt _ e; omega
            have hMl : M.length + 1 ≤ 1000000 := by omega
            have hbs : Hid (w9.heap.size ≤ (wd.alloc (PC.obj ⟨kp, np, op, ap, sp, pp, lenp, capp⟩)).heap.size) := Nat.le_trans q7.size hre.size
            have hgz : Hid (wd.heap.size + 1 = (wd.alloc (PC.obj ⟨kp, np, op, ap, sp, pp, lenp, capp⟩)).heap.size) := by unfold Hid; simp
            have h9e : Below w9.heap.size w9 (wd.alloc (PC.obj ⟨kp, np, op, ap, sp, pp, lenp, capp⟩)) := Below.then q7 hre (Nat.le_refl _)
            have Q1 : Hid (n + pc = cntR (l ++ [P]) + cntP Q) := by unfold Hid; rw [cntR_snoc, q1, Hpc.out]; omega
            have Q4 : Hid (∀ x ∈ l ++ [P], Fit t x) := fun x hx => by
              rcases List.mem_append.1 hx with hx | hx
              · exact q4 x hx
              · rw [List.mem_singleton.1 hx]; exact HFit.out
            have Q5 : Hid (s' = (l ++ [P]).any (fun x => hasP x V)) := by unfold Hid; rw [Hs'.out, q5, Hhb.out, List.any_append]; simp
            have H9e : Hid _ := h9e
            have Hown : Hid (Own1 _ _ _ _ _) := hown
            have Hoff : Hid (Off _ _ _ _ _) := hoff
            have Hb0 : Hid (w9.heap.size ≤ wd.heap.size) := Nat.le_trans q7.size hsz
            have Hcell : Hid (Cells6 _ _ _ _) := hcell
            have Hbase : Hid (∀ k, v.ownBlock = some k → w9.heap.size ≤ k) := fun k hk => (q2.row.lt k hk).1
            clear q1 q2 q4 q5 q6 q7 hde hre hlt hsz h9e hown hoff hcell
            simp only [PC.obj] at *
            go_wp2_with (at_builtin; refine wpList_append_one rfl _ _ rfl Hown.out wd.heap.size _ P Hcell.out hne.out Hb0.out Hoff.out hMl hbs.out rfl _ hgz.out rfl ?_)
            intro v7 w7 ho7 hg7
            have hb7 : Below w9.heap.size w9 w7 := by
              have h1 := H9e.out.alloc (Below.size H9e.out) (.cells #[.slice (some ⟨wd.heap.size, 0, none⟩) 1 1] 23)
              exact h1.trans (grown_below hg7.out Hbase.out h1.size)
            have QQ : Hid (n + pc = cntR (l ++ [P]) + cntP Q ∧ Own1 w7 w9.heap.size v7 (l ++ [P]) (M ++ [(⟨some ⟨wd.heap.size, 0, none⟩, 1, [P]⟩ : RC)]) ∧ (M ++ [(⟨some ⟨wd.heap.size, 0, none⟩, 1, [P]⟩ : RC)]).length ≤ i + 1 ∧ (∀ x ∈ l ++ [P], Fit t x) ∧ s' = (l ++ [P]).any (fun x => hasP x V) ∧ (l ++ [P] = [] ∨ n + pc ≤ 150) ∧ Below w9.heap.size w9 w7) := ⟨Q1.out, ho7.out, by simp; omega, Q4.out, Q5.out, .inr hbig, hb7⟩
            clear ho7 hg7 hb7 Hown Hoff Hcell H9e Q1 Q4 Q5 y0 y1 y2 y3 y4 y5 y6 HPb3 HPf3 Hrd
            go_wp2
            go_roundg (20 - (i + 1))
            case measure => omega
            case rel => exact ⟨i + 1, l ++ [P], _, n + pc, v7, s', by first | rfl | go_num, rfl, rfl, by first | rfl | go_num, by omega, by omega, rfl, QQ⟩
        · have hbig' : ¬ (n : Int) + pc ≤ 150 := by omega
          obtain ⟨q1, q2, q3, q4, q5, q6, q7⟩ := HL.out
          have QQ : Hid (Own1 wc w9.heap.size v l M ∧ M.length ≤ 20 ∧ (∀ x ∈ l, Fit t x) ∧ s = l.any (fun x => hasP x V) ∧ (cntP Q ≤ 150 → cntR l + cntP Q ≤ 150) ∧ (n + pc + 1 ≤ 150 → cntR l + 1 ≤ 150) ∧ n + pc ≤ 100000000 ∧ Below w9.heap.size w9 wc) := ⟨q2.below Hrc.out, by omega, q4, q5, fun h => by
            rcases q6 with rfl | q6
            · simpa [cntR] using h
            · omega, fun h => by omega, by omega, Below.then q7 Hrc.out (Nat.le_refl _)⟩
          clear q1 q2 q3 q4 q5 q6 q7 HL
          go_wp2
          go_meet
          exact ⟨l, M, n + pc, v, s, by first | rfl | go_num, rfl, rfl, QQ.out⟩
      · obtain ⟨q1, q2, q3, q4, q5, q6, q7⟩ := HL.out
        have hcq := cntP_pos Q
        have QQ : Hid (Own1 wr w9.heap.size v l M ∧ M.length ≤ 20 ∧ (∀ x ∈ l, Fit t x) ∧ s = l.any (fun x => hasP x V) ∧ (cntP Q ≤ 150 → cntR l + cntP Q ≤ 150) ∧ (n + 1 ≤ 150 → cntR l + 1 ≤ 150) ∧ n ≤ 100000000 ∧ Below w9.heap.size w9 wr) := ⟨q2, by omega, q4, q5, fun h => by
          rcases q6 with rfl | q6
          · simpa [cntR] using h
          · omega, fun h => by omega, by omega, q7⟩
        clear q1 q2 q3 q4 q5 q6 q7 HL hcq
        by_cases hir : i < raw.length
        · have hir' : (i : Int) < raw.length := by omega
          have hi20' : ¬ (i : Int) < 20 := by omega
          clear hi
          go_wp2
          go_meet
          exact ⟨l, M, n, v, s, rfl, rfl, rfl, QQ.out⟩
        · have hir' : ¬ (i : Int) < raw.length := by omega
          clear hi
          go_wp2
          go_meet
          exact ⟨l, M, n, v, s, rfl, rfl, rfl, QQ.out⟩
  case rest =>
    obtain ⟨l, M, n, v, s, rfl, rfl, rfl, HC⟩ := hcut.out
    clear hcut
    rename World => wx
    obtain ⟨q2, q3, q4, q5, q6, q8, q9, q7⟩ := HC
    obtain ⟨rq, rcap, hv, hrc, _⟩ := q2.at (by unfold maxLen; omega)
    subst hv
    have hMl := q2.len
    have hrl2 : (rows1 l).length ≤ 20 := by simp only [rows1, List.length_map]; omega
    have Hown : Hid (Own1 wx w9.heap.size (.slice rq (rows1 l).length rcap) l M) := q2
    have Hl : Hid (∀ x ∈ l, Fit t x) := q4
    have Hs : Hid (s = l.any (fun x => hasP x V)) := q5
    have H6 : Hid (cntP Q ≤ 150 → cntR l + cntP Q ≤ 150) := q6
    have H8 : Hid (n + 1 ≤ 150 → cntR l + 1 ≤ 150) := q8
    have Hcnt2 : Hid _ := count_any w9 _ Q (Fresh.in_ HQin2.out) wx q7
    rw [show wrap64 (cntP Q : Int) = cntP Q by unfold wrap64; omega] at Hcnt2
    simp only [PC.val] at Hcnt2
    obtain ⟨y0, y1, y2, y3, y4, y5, y6⟩ := PBox.cells' (PBox.below HQb2.out q7)
    simp only at y0 y1 y2 y3 y4 y5 y6
    have H7 : Hid (Below w9.heap.size w9 wx) := q7
    obtain ⟨qc, hqc⟩ : ∃ qc, qc = cntP Q := ⟨_, rfl⟩
    have Hqc : Hid (qc = cntP Q) := hqc
    rw [← hqc] at Hcnt2
    clear q2 q4 q5 q6 q7 q8 HfitR hMl hqc
    by_cases hq : qc ≤ 150
    · have hq' : (qc : Int) ≤ 150 := by omega
      go_wp2_with fail
      refine Calls.mono Hcnt2.out ?_
      rintro e4 w10 ⟨rfl, hb10⟩
      have H70 : Hid (Below w9.heap.size w9 w10) := Below.then H7.out hb10 (Nat.le_refl _)
      have Hown0 : Hid (Own1 w10 _ _ _ _) := Own1.below Hown.out hb10
      clear hb10 Hown H7 Hcnt2 y0 y1 y2 y3 y4 y5 y6
      go_upto_region 21 with fail
      obtain ⟨y0, y1, y2, y3, y4, y5, y6⟩ := PBox.cells' (PBox.below HQb2.out H70.out)
      simp only at y0 y1 y2 y3 y4 y5 y6
      have h01 : Below w10.heap.size w10 (w10.alloc (PC.obj ⟨kq, nq, oq, aq, sq, pq, lenq, capq⟩)) := (Below.refl _ _).alloc (Nat.le_refl _) _
      obtain ⟨rq', rcap', hv', _, hmat⟩ := Own1.at Hown0.out (by unfold maxLen; omega)
      cases hv'
      have hrow : RowAt w10 (w10.alloc (PC.obj ⟨kq, nq, oq, aq, sq, pq, lenq, capq⟩)) (some ⟨w10.heap.size, 0, none⟩) [Q] := ⟨by simp [maxLen], fun i hi => by
        obtain rfl : i = 0 := by simpa using hi
        exact ⟨w10.heap.size, 0, ⟨kq, nq, oq, aq, sq, pq, lenq, capq⟩, rfl, by simpa using (pbox_new w10 ⟨kq, nq, oq, aq, sq, pq, lenq, capq⟩).cells, Fresh.in_ (Fresh.keep HQin2.out H70.out)⟩⟩
      have Hcall : Hid _ := HU.out w10 _ (rows1 l) [Q] rq rcap (some ⟨w10.heap.size, 0, none⟩) 1 h01 (hmat.below h01) hrow hrc (Nat.le_refl _) (by omega)
      have hown := covered_own Hl.out Hne.out hVv' (H6.out (by rw [← Hqc.out]; exact hq))
      obtain ⟨hk0, hown⟩ := hown
      generalize usefulAns (rows1 l) [Q] = A at *
      obtain ⟨ab, ak, aa⟩ := A
      simp only at hk0 hown
      subst hk0
      have Hthm : Hid (hasP Q V = true → (∀ x ∈ l, hasP x V = false) → ab = true) := hown
      have H71 : Hid (Below w9.heap.size w9 _) := Below.then H70.out h01 (Nat.le_refl _)
      have Hown1 : Hid (Own1 _ _ _ _ _) := Own1.below Hown0.out h01
      simp only [PC.obj, List.length_cons, List.length_nil, Nat.zero_add] at Hcall H71 Hown1
      clear h01 hmat hrow hown Hown0 H70
      go_wp2_with fail
      refine Calls.mono Hcall.out ?_
      rintro e5 w12 ⟨rfl, hb12⟩
      have h92 : Below w9.heap.size w9 w12 := Below.then H71.out hb12 (Nat.le_refl _)
      have hown2 := Own1.below Hown1.out hb12
      clear hb12 Hown1 H71 Hcall y0 y1 y2 y3 y4 y5 y6
      have hE2 := EBox.below HE.out h92
      obtain ⟨x0, x1, x2⟩ := hE2.cells
      have g0 : w12.frozen? ⟨fb, 0, none⟩ = false := by unfold EBox at hE2; simp [World.frozen?, hE2]
      have g1 : w12.frozen? ⟨fb, 1, none⟩ = false := by unfold EBox at hE2; simp [World.frozen?, hE2]
      have HE3 : Hid (EBox ((w12.setCell ⟨fb, 0, none⟩ (.int .i64 0)).setCell ⟨fb, 1, none⟩ (.int .i64 aa)) fb 0 aa) := by
        unfold Hid EBox at *
        simp [World.setCell, Array.getElem?_modify, hE2]
      have hne : ∀ k, k ≠ fb → ((w12.setCell ⟨fb, 0, none⟩ (.int .i64 0)).setCell ⟨fb, 1, none⟩ (.int .i64 aa)).heap[k]? = w12.heap[k]? := fun k hk => (set1_ne _ fb 1 _ k hk).trans (set1_ne _ fb 0 _ k hk)
      have hsz : ((w12.setCell ⟨fb, 0, none⟩ (.int .i64 0)).setCell ⟨fb, 1, none⟩ (.int .i64 aa)).heap.size = w12.heap.size := by simp [World.setCell]
      have hf9 : fb < w9.heap.size := EBox.lt HE.out
      have Hown3 : Hid (Own1 ((w12.setCell ⟨fb, 0, none⟩ (.int .i64 0)).setCell ⟨fb, 1, none⟩ (.int .i64 aa)) w9.heap.size (.slice rq (rows1 l).length rcap) l M) := hown2.other (Nat.le_of_eq hsz.symm) (fun k hk _ => hne k (by omega))
      have HQf3 : Hid (Fresh (fb + 1) ((w12.setCell ⟨fb, 0, none⟩ (.int .i64 0)).setCell ⟨fb, 1, none⟩ (.int .i64 aa)) ⟨kq, nq, oq, aq, sq, pq, lenq, capq⟩ Q) := Fresh.set1 (Fresh.set1 (Fresh.keep HQin2.out h92) (Nat.lt_succ_self _) 0 _) (Nat.lt_succ_self _) 1 _
      have HVf3 : Hid (Fresh (fb + 1) ((w12.setCell ⟨fb, 0, none⟩ (.int .i64 0)).setCell ⟨fb, 1, none⟩ (.int .i64 aa)) ⟨kv, nv, ov, av, sv, pv, lenv, capv⟩ V) := Fresh.set1 (Fresh.set1 (Fresh.keep HVin2.out h92) (Nat.lt_succ_self _) 0 _) (Nat.lt_succ_self _) 1 _
      have HQb3 : Hid (PBox ((w12.setCell ⟨fb, 0, none⟩ (.int .i64 0)).setCell ⟨fb, 1, none⟩ (.int .i64 aa)) qb ⟨kq, nq, oq, aq, sq, pq, lenq, capq⟩) := (hne qb (Nat.ne_of_gt HQl.out)).trans (PBox.below HQb2.out h92)
      have HVb3 : Hid (PBox ((w12.setCell ⟨fb, 0, none⟩ (.int .i64 0)).setCell ⟨fb, 1, none⟩ (.int .i64 aa)) vb ⟨kv, nv, ov, av, sv, pv, lenv, capv⟩) := (hne vb (Nat.ne_of_gt HVl.out)).trans (PBox.below HVb2.out h92)
      have Hw3 : Hid (Below w.heap.size w ((w12.setCell ⟨fb, 0, none⟩ (.int .i64 0)).setCell ⟨fb, 1, none⟩ (.int .i64 aa))) := ((Below.then Hw9.out h92 (Nat.le_refl _)).setCell (p := ⟨fb, 0, none⟩) Hfb.out _).setCell (p := ⟨fb, 1, none⟩) Hfb.out _
      clear hne hsz hf9 hown2 hE2 h92 HQin2 HVin2 HQb2 HVb2 Hw9 HE
      go_upto_region 22 with fail
      generalize (w12.setCell { block := fb, off := 0 } (Value.int IntKind.i64 0)).setCell { block := fb, off := 1 } (Value.int IntKind.i64 aa) = wS at *
      clear x0 x1 x2 g0 g1
      have hST : Below wS.heap.size wS (wS.alloc PC.any.obj) := (Below.refl _ _).alloc (Nat.le_refl _) _
      obtain ⟨rq', rcap', hv', _, hmat⟩ := Own1.at Hown3.out (by unfold maxLen; omega)
      cases hv'
      have hrow : RowAt wS (wS.alloc PC.any.obj) (some ⟨wS.heap.size, 0, none⟩) [Pt.any] := ⟨by simp [maxLen], fun i hi => by
        obtain rfl : i = 0 := by simpa using hi
        exact ⟨wS.heap.size, 0, PC.any, rfl, by simpa using (pbox_new wS PC.any).cells, PtIn.any wS⟩⟩
      have Hcall : Hid _ := HU.out wS _ (rows1 l) [Pt.any] rq rcap (some ⟨wS.heap.size, 0, none⟩) 1 hST (hmat.below hST) hrow hrc (Nat.le_refl _) (by omega)
      have hall := fun h0 h1 => covered_all (l := l) (V := V) Hl.out hVv' h0 h1
      have hflt := fun hc => covered_fault (l := l) Hl.out hc
      generalize usefulAns (rows1 l) [Pt.any] = A at *
      obtain ⟨bb, gk, ga⟩ := A
      simp only at hall hflt
      have Hall : Hid (gk = 0 → bb = false → ∃ x ∈ l, hasP x V = true) := hall
      have Hflt : Hid (cntR l + 1 ≤ 150 → gk = 0) := hflt
      have HQf4 : Hid (Fresh (fb + 1) _ ⟨kq, nq, oq, aq, sq, pq, lenq, capq⟩ Q) := Fresh.keep HQf3.out hST
      have HVf4 : Hid (Fresh (fb + 1) _ ⟨kv, nv, ov, av, sv, pv, lenv, capv⟩ V) := Fresh.keep HVf3.out hST
      have HQb4 : Hid (PBox _ qb _) := PBox.below HQb3.out hST
      have HVb4 : Hid (PBox _ vb _) := PBox.below HVb3.out hST
      have HE4 : Hid (EBox _ fb 0 aa) := EBox.below HE3.out hST
      have Hw4 : Hid (Below w.heap.size w _) := Below.then Hw3.out hST (Nat.le_refl _)
      simp only [PC.obj, PC.any, List.length_cons, List.length_nil, Nat.zero_add] at Hcall HQf4 HVf4 HQb4 HVb4 HE4 Hw4
      clear hST hmat hrow hall hflt HQf3 HVf3 HQb3 HVb3 HE3 Hw3 Hown3
      go_wp2_with fail
      refine Calls.mono Hcall.out ?_
      rintro e6 w14 ⟨rfl, hb14⟩
      have hb15 := hb14.alloc hb14.size (Obj.cells #[Value.int IntKind.i64 gk, Value.int IntKind.i64 ga] 31)
      have HG : Hid (EBox (w14.alloc (Obj.cells #[Value.int IntKind.i64 gk, Value.int IntKind.i64 ga] 31)) w14.heap.size gk ga) := (MapKept.heap_alloc w14 _).1
      have HQf5 : Hid (Fresh (fb + 1) _ ⟨kq, nq, oq, aq, sq, pq, lenq, capq⟩ Q) := Fresh.keep HQf4.out hb15
      have HVf5 : Hid (Fresh (fb + 1) _ ⟨kv, nv, ov, av, sv, pv, lenv, capv⟩ V) := Fresh.keep HVf4.out hb15
      have HQb5 : Hid (PBox _ qb _) := PBox.below HQb4.out hb15
      have HVb5 : Hid (PBox _ vb _) := PBox.below HVb4.out hb15
      have HE5 : Hid (EBox _ fb 0 aa) := EBox.below HE4.out hb15
      have Hw5 : Hid (Below w.heap.size w _) := Below.then Hw4.out hb15 (Nat.le_refl _)
      clear hb14 hb15 HQf4 HVf4 HQb4 HVb4 HE4 Hw4 Hcall HU
      go_upto_region 23 with fail
      generalize w14.alloc (Obj.cells #[Value.int IntKind.i64 gk, Value.int IntKind.i64 ga] 31) = wT at *
      generalize w14.heap.size = gb at *
      obtain ⟨x0, x1, x2⟩ := EBox.cells HE5.out
      obtain ⟨z0, z1, z2⟩ := EBox.cells HG.out
      go_cut [113] (fun b wy => b = .bool false ∧ wy = wT)
      case first =>
        by_cases hg : gk = 0
        · have hg' : (gk != 0) = false := by simp [hg]
          clear hg
          go_wp2
          go_meet
          exact ⟨rfl, rfl⟩
        · have hg' : (gk != 0) = true := by simp [hg]
          have hn' : ¬ ((n : Int) + 1 ≤ 150) := fun h => hg (Hflt.out (H8.out (by omega)))
          clear hg
          go_wp2
          go_meet
          exact ⟨rfl, rfl⟩
      case rest =>
        obtain ⟨rfl, rfl⟩ := hcut
        rename World => wT
        obtain ⟨y0, y1, y2, y3, y4, y5, y6⟩ := PBox.cells' HQb5.out
        obtain ⟨v0, v1, v2, v3, v4, v5, v6⟩ := PBox.cells' HVb5.out
        simp only at y0 y1 y2 y3 y4 y5 y6 v0 v1 v2 v3 v4 v5 v6
        have Hhas : Hid _ := has_any wT _ Q (Fresh.in_ HQf5.out) Hne.out.good _ V (Fresh.in_ HVf5.out) wT (Below.refl _ _)
        simp only [PC.val] at Hhas
        obtain ⟨hb, hhb⟩ : ∃ hb, hb = hasP Q V := ⟨_, rfl⟩
        rw [← hhb] at Hhas
        have Hhb : Hid (hb = hasP Q V) := hhb
        clear hhb x0 x1 x2 z0 z1 z2
        go_wp2_with fail
        refine Calls.mono Hhas.out ?_
        rintro e7 wU ⟨rfl, hbU⟩
        have HG2 : Hid (EBox wU gb gk ga) := EBox.below HG.out hbU
        have HwU : Hid (Below w.heap.size w wU) := Below.then Hw5.out hbU (Nat.le_refl _)
        clear hbU HG Hhas HQf5 HVf5 HQb5 HVb5 HE5 Hw5 y0 y1 y2 y3 y4 y5 y6 v0 v1 v2 v3 v4 v5 v6
        go_upto_region 26 with fail
        have Hnot : Hid (hb = true → s = false → ab = true) := fun h1 h2 => Hthm.out (by rw [← Hhb.out]; exact h1) (fun x hx => by
          have h3 := Hs.out
          rw [h2] at h3
          have h4 := List.any_eq_false.1 h3.symm x hx
          simpa using h4)
        have Hend : Hid (gk = 0 → bb = false → s = true) := fun h1 h2 => by
          obtain ⟨x, hx, hxx⟩ := Hall.out h1 h2
          rw [Hs.out]
          exact List.any_eq_true.2 ⟨x, hx, hxx⟩
        clear Hthm Hhb Hs Hall Hflt H8 H6 Hl
        go_cut [125] (fun b wy => b = .bool false ∧ wy = wU)
        case first =>
          cases hb with
          | false =>
            go_wp2
            go_meet
            exact ⟨rfl, rfl⟩
          | true =>
            cases s with
            | true =>
              go_wp2
              go_meet
              exact ⟨rfl, rfl⟩
            | false =>
              have hab := Hnot.out rfl rfl
              subst hab
              go_wp2
              go_meet
              exact ⟨rfl, rfl⟩
        case rest =>
          obtain ⟨rfl, rfl⟩ := hcut
          rename World => wU
          obtain ⟨z0, z1, z2⟩ := EBox.cells HG2.out
          by_cases hg : gk = 0
          · have hg' : (gk != 0) = false := by simp [hg]
            cases bb with
            | true =>
              clear hg
              go_wp2
              go_ret
              exact ⟨rfl, HwU.out⟩
            | false =>
              have hs := Hend.out hg rfl
              subst hs
              clear hg
              go_wp2
              go_ret
              exact ⟨rfl, HwU.out⟩
          · have hg' : (gk != 0) = true := by simp [hg]
            clear hg
            go_wp2
            go_ret
            exact ⟨rfl, HwU.out⟩
    · have hq' : ¬ (qc : Int) ≤ 150 := by omega
      go_wp2_with fail
      refine Calls.mono Hcnt2.out ?_
      rintro e4 w10 ⟨rfl, hb10⟩
      have Q : Hid (Below w.heap.size w w10) := Below.then (Below.then Hw9.out H7.out (Nat.le_refl _)) hb10 (Nat.le_refl _)
      clear hb10
      go_wp2
      go_ret
      exact ⟨rfl, Q.out⟩
end
end Go.Proofs.Ytjhfomfaddfklaa
