/-
  The law Covered's own functions, four: fitted where it makes a name, a name for a part, a number, a pair.
-/
import Derived.Test.YtjhfomfaddfklaaU20
namespace Go.Proofs.Ytjhfomfaddfklaa
open Go.RowKit Go.Deep
theorem var_good (n : Int) : (Pt.mk 1 n 0 0 { data := #[] } []).good = true := by simp [Pt.good, Pt.goodL, okP]
theorem num_good (n : Int) : (Pt.mk 3 n 0 0 { data := #[] } []).good = true := by simp [Pt.good, Pt.goodL, okP]
theorem num_wt (n : Int) : WT .num (.mk 3 n 0 0 { data := #[] } []) := WT.mk .num n 0 0 _ [] (fun _ hi => absurd hi (Nat.not_lt_zero _)) rfl (fun h => by simp [Sr.kind] at h) (fun h => by simp [Sr.kind] at h)
theorem num_vt (n : Int) : VT .num (.mk 3 n 0 0 { data := #[] } []) := VT.mk .num n 0 0 _ [] (fun _ hi => absurd hi (Nat.not_lt_zero _)) rfl (fun h => by simp [Sr.kind] at h) (fun h => by simp [Sr.kind] at h)
section
set_option maxHeartbeats 8000000
set_option maxRecDepth 100000
theorem fit_var (c : PC) (t : Sr) (w : World) (hk : -9223372036854775808 ≤ c.k) (hA : pickP c.k 4 = 0) : Calls Try.prog 9 #[c.val, .int .i64 t.nr, .bool false] w fun e w' => FitPost 1 t false w e w' := by
  obtain ⟨k, n, oo, a, s, p, len, cap⟩ := c
  simp only [PC.val] at *
  generalize t.nr = tn
  have Hp : Hid _ := fun w => pick_any k 4 hk (by decide) w
  rw [hA] at Hp
  clear hk hA
  go_enter Try.func9, Try.ntmps9
  go_wp2_with (go_at_call 7; refine Calls.mono (Hp.out _) ?_; rintro e w' ⟨rfl, rfl⟩)
  exact bodyPost_ret (v := PC.val ⟨1, n, 0, 0, { data := #[] }, none, 0, 0⟩) (by simp [results, Try.results9, go_sem, PC.val]) rfl (FitPost.mk ⟨1, n, 0, 0, { data := #[] }, none, 0, 0⟩ (.mk 1 n 0 0 { data := #[] } []) rfl (Fresh.leaf _ _ 1 n 0 (by decide)) (var_good n) rfl (WT.any t 1 n 0 0 _ (Or.inr rfl)) (fun h => by cases h) (below2 _ _ _) (by simp [cntP, cntL]))
theorem fit_num (c : PC) (v : Bool) (w : World) (hk : -9223372036854775808 ≤ c.k) (hn : -9223372036854775808 ≤ c.n) (hC : v = false → pickP c.k 4 ≠ 0 ∧ pickP c.k 9 ≠ 1) : Calls Try.prog 9 #[c.val, .int .i64 0, .bool v] w fun e w' => FitPost 1 .num v w e w' := by
  obtain ⟨k, n, oo, a, s, p, len, cap⟩ := c
  simp only [PC.val] at *
  have Hp : Hid _ := fun w => pick_any n 3 hn (by decide) w
  generalize pickP n 3 = r at *
  clear hn
  have H4 : Hid _ := fun w => pick_any k 4 hk (by decide) w
  have H9 : Hid _ := fun w => pick_any k 9 hk (by decide) w
  have h1 : Hid (v = false → (pickP k 4 == 0) = false) := fun h => by simpa using (hC h).1
  have h2 : Hid (v = false → (pickP k 9 == 1) = false) := fun h => by simpa using (hC h).2
  generalize pickP k 4 = r4 at *
  generalize pickP k 9 = r9 at *
  clear hk hC
  have hw2' := below2 w (PC.obj ⟨k, n, oo, a, s, p, len, cap⟩) (PC.obj PC.any)
  have hb1 := (pbox_new w ⟨k, n, oo, a, s, p, len, cap⟩).below ((Below.refl _ _).alloc (Nat.le_refl _) (PC.obj PC.any))
  have hb2 := pbox_new (w.alloc (PC.obj ⟨k, n, oo, a, s, p, len, cap⟩)) PC.any
  have e1 : (w.alloc (PC.obj ⟨k, n, oo, a, s, p, len, cap⟩)).heap.size = w.heap.size + 1 := by simp
  rw [e1] at hb2
  have Hb1 : Hid (PBox _ _ _) := hb1
  have Hb2 : Hid (PBox _ _ _) := hb2
  have Hw2 : Hid (Below _ w _) := hw2'
  clear hw2' hb1 hb2 e1
  obtain ⟨w2, hw2⟩ : ∃ w2, w2 = (w.alloc (PC.obj ⟨k, n, oo, a, s, p, len, cap⟩)).alloc (PC.obj PC.any) := ⟨_, rfl⟩
  rw [← hw2] at Hb1 Hb2 Hw2
  go_enter Try.func9, Try.ntmps9
  go_upto_region 1 with fail
  go_cut [17] from 10 to 16 (fun b wx => b = .bool false ∧ wx = w2)
  case first =>
    cases v with
    | true =>
      go_wp2_with fail
      go_meet
      exact ⟨rfl, hw2.symm⟩
    | false =>
      have h1' := h1.out rfl
      go_wp2_with (go_at_call 7; refine Calls.mono (H4.out _) ?_; rintro e w' ⟨rfl, rfl⟩)
      go_meet
      exact ⟨rfl, hw2.symm⟩
  case rest =>
    obtain ⟨rfl, rfl⟩ := hcut
    clear hw2
    rename World => w2
    go_upto_region 3 with fail
    obtain ⟨x0, x1, x2, x3, x4, x5, x6⟩ := PBox.cells' Hb1.out
    simp only at x0 x1 x2 x3 x4 x5
    go_cut [28] from 21 to 27 (fun b wx => b = .bool false ∧ wx = w2)
    case first =>
      cases v with
      | true =>
        go_wp2_with fail
        go_meet
        exact ⟨rfl, rfl⟩
      | false =>
        have h2' := h2.out rfl
        go_wp2_with (go_at_call 7; refine Calls.mono (H9.out _) ?_; rintro e w' ⟨rfl, rfl⟩)
        go_meet
        exact ⟨rfl, rfl⟩
    case rest =>
      obtain ⟨rfl, rfl⟩ := hcut
      rename World => w2
      clear H4 H9 h1 h2
      go_upto_region 7 with fail
      have hbx3 := Hb2.out
      obtain ⟨y0, y1, y2, y3, y4, y5, y6⟩ := PBox.cells' hbx3
      have z0 := PBox.frozen hbx3 0
      have z1 := PBox.frozen hbx3 1
      have z2 := PBox.frozen hbx3 2
      have z3 := PBox.frozen hbx3 3
      have z4 := PBox.frozen hbx3 4
      have z5 := PBox.frozen hbx3 5
      have hset := PBox.set6 hbx3 ⟨3, r, 0, 0, { data := #[] }, none, 0, 0⟩
      have Hbl : Hid (Below w.heap.size w (set6 w2 (w.heap.size + 1) ⟨3, r, 0, 0, { data := #[] }, none, 0, 0⟩)) := Below.set6 Hw2.out (by omega) _
      obtain ⟨r0, r1, r2, r3, r4, r5, r6⟩ := hset.cells'
      unfold set6 at r0 r1 r2 r3 r4 r5 Hbl
      have HR : Hid _ := (⟨r0, r1, r2, r3, r4, r5⟩ : _ ∧ _ ∧ _ ∧ _ ∧ _ ∧ _)
      clear hset r0 r1 r2 r3 r4 r5 r6 hbx3 Hb1 Hb2 Hw2
      simp only [PC.any] at y0 y1 y2 y3 y4 y5
      go_wp2_with (go_at_call 7; refine Calls.mono (Hp.out _) ?_; rintro e w' ⟨rfl, rfl⟩)
      obtain ⟨r0, r1, r2, r3, r4, r5⟩ := HR.out
      refine bodyPost_ret (v := PC.val ⟨3, r, 0, 0, { data := #[] }, none, 0, 0⟩) ?_ rfl (FitPost.mk ⟨3, r, 0, 0, { data := #[] }, none, 0, 0⟩ (.mk 3 r 0 0 { data := #[] } []) rfl (Fresh.leaf _ _ 3 r 0 (by decide)) (num_good r) rfl (num_wt r) (fun _ => num_vt r) Hbl.out (by simp [cntP, cntL]))
      simp [results, Try.results9, go_sem, r0, r1, r2, r3, r4, r5, PC.val]
theorem fit_p12 (wb : World) (P : Pt) (c : PC) (hP : PtIn wb c P) (v : Bool) {N0 N1 : Nat} (hK0 : FitAt wb (kidP P 0) .two v N0) (hK1 : FitAt wb (kidP P 1) .opt v N1) (w : World) (hbw : Below wb.heap.size wb w) (hk : -9223372036854775808 ≤ c.k) (hC : v = false → pickP c.k 4 ≠ 0 ∧ pickP c.k 9 ≠ 1) : Calls Try.prog 9 #[c.val, .int .i64 4, .bool v] w fun e w' => FitPost (1 + N0 + N1) .p12 v w e w' := by
  have Hpair : Hid (∀ wx, Below w.heap.size w wx → _) := fun wx hx => pair_any wb P c hP .p12 .opt (Or.inl ⟨rfl, rfl⟩) v hK0 hK1 wx (hbw.trans (hx.mono hbw.size))
  obtain ⟨k, n, oo, a, s, p, len, cap⟩ := c
  simp only [PC.val, Sr.nr] at *
  clear hK0 hK1 hP hbw
  have H4 : Hid _ := fun w => pick_any k 4 hk (by decide) w
  have H9 : Hid _ := fun w => pick_any k 9 hk (by decide) w
  have h1 : Hid (v = false → (pickP k 4 == 0) = false) := fun h => by simpa using (hC h).1
  have h2 : Hid (v = false → (pickP k 9 == 1) = false) := fun h => by simpa using (hC h).2
  generalize pickP k 4 = r4 at *
  generalize pickP k 9 = r9 at *
  clear hk hC
  have hw2' := below2 w (PC.obj ⟨k, n, oo, a, s, p, len, cap⟩) (PC.obj PC.any)
  have hb1 := (pbox_new w ⟨k, n, oo, a, s, p, len, cap⟩).below ((Below.refl _ _).alloc (Nat.le_refl _) (PC.obj PC.any))
  have hb2 := pbox_new (w.alloc (PC.obj ⟨k, n, oo, a, s, p, len, cap⟩)) PC.any
  have e1 : (w.alloc (PC.obj ⟨k, n, oo, a, s, p, len, cap⟩)).heap.size = w.heap.size + 1 := by simp
  rw [e1] at hb2
  have Hb1 : Hid (PBox _ _ _) := hb1
  have Hb2 : Hid (PBox _ _ _) := hb2
  have Hw2 : Hid (Below _ w _) := hw2'
  clear hw2' hb1 hb2 e1
  obtain ⟨w2, hw2⟩ : ∃ w2, w2 = (w.alloc (PC.obj ⟨k, n, oo, a, s, p, len, cap⟩)).alloc (PC.obj PC.any) := ⟨_, rfl⟩
  rw [← hw2] at Hb1 Hb2 Hw2
  go_enter Try.func9, Try.ntmps9
  go_upto_region 1 with fail
  go_cut [17] from 10 to 16 (fun b wx => b = .bool false ∧ wx = w2)
  case first =>
    cases v with
    | true =>
      go_wp2_with fail
      go_meet
      exact ⟨rfl, hw2.symm⟩
    | false =>
      have h1' := h1.out rfl
      go_wp2_with (go_at_call 7; refine Calls.mono (H4.out _) ?_; rintro e w' ⟨rfl, rfl⟩)
      go_meet
      exact ⟨rfl, hw2.symm⟩
  case rest =>
    obtain ⟨rfl, rfl⟩ := hcut
    clear hw2
    rename World => w2
    go_upto_region 3 with fail
    obtain ⟨x0, x1, x2, x3, x4, x5, x6⟩ := PBox.cells' Hb1.out
    simp only at x0 x1 x2 x3 x4 x5
    go_cut [28] from 21 to 27 (fun b wx => b = .bool false ∧ wx = w2)
    case first =>
      cases v with
      | true =>
        go_wp2_with fail
        go_meet
        exact ⟨rfl, rfl⟩
      | false =>
        have h2' := h2.out rfl
        go_wp2_with (go_at_call 7; refine Calls.mono (H9.out _) ?_; rintro e w' ⟨rfl, rfl⟩)
        go_meet
        exact ⟨rfl, rfl⟩
    case rest =>
      obtain ⟨rfl, rfl⟩ := hcut
      rename World => w2
      clear H4 H9 h1 h2
      go_upto_region 9 with fail
      have hcall := Hpair.out w2 Hw2.out
      have HZ : Hid (w.heap.size + 1 < w2.heap.size) := PBox.lt Hb2.out
      clear Hpair
      go_wp2_with fail
      refine Calls.mono hcall ?_
      rintro e1 w3 ⟨c3, X, rfl, hX, hXg, hXz, hXw, hXv, hb3, hXn⟩
      have hbx3 := PBox.below Hb2.out hb3
      have Hw3 : Hid (Below w.heap.size w w3) := Below.then Hw2.out hb3 (Nat.le_refl _)
      clear hcall hb3 Hb1 Hb2 Hw2 x0 x1 x2 x3 x4 x5 x6
      obtain ⟨y0, y1, y2, y3, y4, y5, y6⟩ := PBox.cells' hbx3
      have z0 := PBox.frozen hbx3 0
      have z1 := PBox.frozen hbx3 1
      have z2 := PBox.frozen hbx3 2
      have z3 := PBox.frozen hbx3 3
      have z4 := PBox.frozen hbx3 4
      have z5 := PBox.frozen hbx3 5
      have hset := PBox.set6 hbx3 c3
      have Hbl : Hid (Below w.heap.size w (set6 w3 (w.heap.size + 1) c3)) := Below.set6 Hw3.out (by omega) _
      have HF : Hid (Fresh w.heap.size _ _ _) := Fresh.low (Fresh.set6 hX (b := w.heap.size + 1) HZ.out c3) (Nat.le_of_lt (Nat.lt_of_succ_lt HZ.out))
      obtain ⟨r0, r1, r2, r3, r4, r5, r6⟩ := hset.cells'
      obtain ⟨ck, cn, co, ca, cs, cp, cl, cc⟩ := c3
      unfold set6 at r0 r1 r2 r3 r4 r5 Hbl HF
      have HR : Hid _ := (⟨r0, r1, r2, r3, r4, r5⟩ : _ ∧ _ ∧ _ ∧ _ ∧ _ ∧ _)
      clear hset r0 r1 r2 r3 r4 r5 r6 hbx3 Hw3 hX
      simp only [PC.any, PC.val] at *
      go_wp2
      obtain ⟨r0, r1, r2, r3, r4, r5⟩ := HR.out
      refine bodyPost_ret (v := PC.val ⟨ck, cn, co, ca, cs, cp, cl, cc⟩) ?_ rfl (FitPost.mk ⟨ck, cn, co, ca, cs, cp, cl, cc⟩ X rfl HF.out hXg hXz hXw hXv Hbl.out hXn)
      simp [results, Try.results9, go_sem, r0, r1, r2, r3, r4, r5, PC.val]
end
end Go.Proofs.Ytjhfomfaddfklaa
