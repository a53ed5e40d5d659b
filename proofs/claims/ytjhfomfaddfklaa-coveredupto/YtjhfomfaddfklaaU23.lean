/-
  The law Covered's own functions, six: fitted where it makes a constructor.
-/
import Derived.Test.YtjhfomfaddfklaaU22
namespace Go.Proofs.Ytjhfomfaddfklaa
open Go.RowKit Go.Deep
theorem con_sort {t : Sr} (ht : t = .two ∨ t = .opt ∨ t = .lst ∨ t = .thr) : ofP t.nr = t.cnt ∧ (t.nr == 0) = false ∧ (t.nr == 4) = false ∧ t.kind = 6 ∧ 0 < t.cnt ∧ t.cnt ≤ 3 := by
  rcases ht with rfl | rfl | rfl | rfl <;> decide
theorem con_part {t : Sr} (ht : t = .two ∨ t = .opt ∨ t = .lst ∨ t = .thr) {n : Int} (h : 0 ≤ n ∧ n < t.cnt) : (partsP t.nr n = -1 ∧ t.args n = []) ∨ (partsP t.nr n = -2 ∧ t.args n = [.p13]) ∨ ∃ s : Sr, s ≠ .p13 ∧ partsP t.nr n = s.nr ∧ t.args n = [s] := by
  rcases ht with rfl | rfl | rfl | rfl
  · left
    simp [partsP, Sr.nr, Sr.args]
  · by_cases h1 : n = 1
    · subst h1
      right; right
      exact ⟨.num, by simp, rfl, rfl⟩
    · left
      simp [partsP, Sr.nr, Sr.args, h1]
  · by_cases h1 : n = 1
    · subst h1
      right; left
      exact ⟨rfl, rfl⟩
    · left
      simp [partsP, Sr.nr, Sr.args, h1]
  · by_cases h1 : n = 1
    · subst h1
      right; right
      exact ⟨.two, by simp, rfl, rfl⟩
    · by_cases h2 : n = 2
      · subst h2
        right; right
        exact ⟨.p12, by simp, rfl, rfl⟩
      · left
        simp [partsP, Sr.nr, Sr.args, h1, h2]
theorem con_good {n o : Int} (h : 0 ≤ n ∧ n < o) : (Pt.mk 6 n o 0 { data := #[] } []).good = true := by simp [Pt.good, Pt.goodL, okP, h]
theorem con1_good {n o : Int} {A : Pt} (h : 0 ≤ n ∧ n < o) (hA : A.good = true) : (Pt.mk 6 n o 0 { data := #[] } [A]).good = true := by simp [Pt.good, Pt.goodL, okP, h, hA]
theorem con_wt {t : Sr} (ht : t.kind = 6) {n : Int} (h : 0 ≤ n ∧ n < t.cnt) (ha : t.args n = []) : WT t (.mk 6 n t.cnt 0 { data := #[] } []) := by
  have := WT.mk t n t.cnt 0 { data := #[] } [] (fun _ hi => absurd hi (Nat.not_lt_zero _)) (by rw [ha]; rfl) (fun h => by omega) (fun _ => ⟨h.1, h.2, rfl⟩)
  rwa [ht] at this
theorem con_vt {t : Sr} (ht : t.kind = 6) {n : Int} (h : 0 ≤ n ∧ n < t.cnt) (ha : t.args n = []) : VT t (.mk 6 n t.cnt 0 { data := #[] } []) := by
  have := VT.mk t n t.cnt 0 { data := #[] } [] (fun _ hi => absurd hi (Nat.not_lt_zero _)) (by rw [ha]; rfl) (fun h => by omega) (fun _ => h)
  rwa [ht] at this
theorem con1_wt {t s : Sr} {A : Pt} (ht : t.kind = 6) {n : Int} (h : 0 ≤ n ∧ n < t.cnt) (ha : t.args n = [s]) (hA : WT s A) : WT t (.mk 6 n t.cnt 0 { data := #[] } [A]) := by
  have := WT.mk t n t.cnt 0 { data := #[] } [A] (fun i hi hi' => by
    obtain rfl : i = 0 := by simpa using hi
    simpa [ha] using hA) (by rw [ha]; rfl) (fun h => by omega) (fun _ => ⟨h.1, h.2, rfl⟩)
  rwa [ht] at this
theorem con1_vt {t s : Sr} {A : Pt} (ht : t.kind = 6) {n : Int} (h : 0 ≤ n ∧ n < t.cnt) (ha : t.args n = [s]) (hA : VT s A) : VT t (.mk 6 n t.cnt 0 { data := #[] } [A]) := by
  have := VT.mk t n t.cnt 0 { data := #[] } [A] (fun i hi hi' => by
    obtain rfl : i = 0 := by simpa using hi
    simpa [ha] using hA) (by rw [ha]; rfl) (fun h => by omega) (fun _ => h)
  rwa [ht] at this
/-- The kids' cell is written anew. -/
theorem PBox.set5 {w : World} {b : Nat} {k n o : Int} (h : PBox w b ⟨k, n, o, 0, { data := #[] }, none, 0, 0⟩) (g : Nat) : PBox (w.setCell ⟨b, 5, none⟩ (.slice (some ⟨g, 0, none⟩) 1 1)) b (PC.one k n o g) := by
  unfold PBox PC.obj at *
  simp [World.setCell, Array.getElem?_modify, h, PC.one]
theorem set1_ne (w : World) (b j : Nat) (v : Value) (k : Nat) (hk : k ≠ b) : (w.setCell ⟨b, j, none⟩ v).heap[k]? = w.heap[k]? := by
  simp [World.setCell, Array.getElem?_modify, Ne.symm hk]
theorem Fresh.set1 {B : Nat} {w : World} {c : PC} {P : Pt} (h : Fresh B w c P) {b : Nat} (hb : b < B) (j : Nat) (v : Value) : Fresh B (w.setCell ⟨b, j, none⟩ v) c P := fun w'' h'' => h w'' (fun k h1 h2 => (h'' k h1 (by simpa [World.setCell] using h2)).trans (set1_ne w b j v k (by omega)))
section
set_option maxHeartbeats 8000000
set_option maxRecDepth 100000
theorem fit_con (wb : World) (P : Pt) (c : PC) (hP : PtIn wb c P) (t : Sr) (ht : t = .two ∨ t = .opt ∨ t = .lst ∨ t = .thr) (v : Bool) {NB : Nat → Nat} (hK : t.args (pickP c.n t.cnt) ≠ [] → ∀ i s, s ≠ .p13 → FitAt wb (kidP P i) s v (NB i)) (w : World) (hbw : Below wb.heap.size wb w) (hk : -9223372036854775808 ≤ c.k) (hn : -9223372036854775808 ≤ c.n) (hC : v = false → pickP c.k 4 ≠ 0 ∧ pickP c.k 9 ≠ 1) : Calls Try.prog 9 #[c.val, .int .i64 t.nr, .bool v] w fun e w' => FitPost (2 + NB 0 + NB 1) t v w e w' := by
  obtain ⟨hof, ht0, ht4, hkind, hcnt, hcnt3⟩ := con_sort ht
  have hpl := pick_low c.n t.cnt hcnt
  have Hpart : Hid _ := con_part ht hpl
  have HK : Hid (t.args (pickP c.n t.cnt) ≠ [] → ∀ i s, s ≠ .p13 → FitAt wb (kidP P i) s v (NB i)) := hK
  have HP : Hid (PtIn wb c P) := hP
  have Hbw : Hid (Below wb.heap.size wb w) := hbw
  have Hp : Hid (∀ w, _) := fun w => pick_any c.n t.cnt hn hcnt w
  have Hof : Hid (∀ w, _) := fun w => of_any t.nr w
  have Hparts : Hid (∀ w, _) := fun w => parts_any t.nr (pickP c.n t.cnt) w
  have Hlst : Hid (t.nr = 3 → t = .lst) := fun h => by rcases ht with rfl | rfl | rfl | rfl <;> simp [Sr.nr] at h ⊢
  rw [hof] at Hof
  have Hl : Hid (0 ≤ pickP c.n t.cnt ∧ pickP c.n t.cnt < t.cnt) := hpl
  have Hk6 : Hid (t.kind = 6 ∧ t.cnt ≤ 3) := ⟨hkind, hcnt3⟩
  obtain ⟨k, n, oo, a, s, p, len, cap⟩ := c
  simp only [PC.val] at *
  generalize pickP n t.cnt = rr at *
  generalize partsP t.nr rr = part at *
  obtain ⟨tn, htn⟩ : ∃ tn, t.nr = tn := ⟨_, rfl⟩
  obtain ⟨cnt, hcn⟩ : ∃ cnt, t.cnt = cnt := ⟨_, rfl⟩
  rw [htn] at Hof Hparts ht0 ht4 Hlst ⊢
  rw [hcn] at Hp Hof Hl Hk6
  clear hof hcnt hcnt3 hkind hn hK hP hbw hpl
  have H4 : Hid _ := fun w => pick_any k 4 hk (by decide) w
  have H9 : Hid _ := fun w => pick_any k 9 hk (by decide) w
  have h1 : Hid (v = false → (pickP k 4 == 0) = false) := fun h => by simpa using (hC h).1
  have h2 : Hid (v = false → (pickP k 9 == 1) = false) := fun h => by simpa using (hC h).2
  generalize pickP k 4 = r4 at *
  generalize pickP k 9 = r9 at *
  clear hk hC
  have hw2' := below2 w (PC.obj ⟨k, n, oo, a, s, p, len, cap⟩) (PC.obj PC.any)
  have hb1 := (pbox_new w ⟨k, n, oo, a, s, p, len, cap⟩).below ((Below.refl _ _).alloc (Nat.le_refl _) (PC.obj PC.any))
  have hb2 := pbox_new (w.alloc (PC.obj ⟨k, n, oo, a, s, p, len, cap⟩)) PC.any
  have e1 : (w.alloc (PC.obj ⟨k, n, oo, a, s, p, len, cap⟩)).heap.size = w.heap.size + 1 := by simp
  rw [e1] at hb2
  have Hb1 : Hid (PBox _ _ _) := hb1
  have Hb2 : Hid (PBox _ _ _) := hb2
  have Hw2 : Hid (Below _ w _) := hw2'
  clear hw2' hb1 hb2 e1
  obtain ⟨w2, hw2⟩ : ∃ w2, w2 = (w.alloc (PC.obj ⟨k, n, oo, a, s, p, len, cap⟩)).alloc (PC.obj PC.any) := ⟨_, rfl⟩
  rw [← hw2] at Hb1 Hb2 Hw2
  go_enter Try.func9, Try.ntmps9
  go_upto_region 1 with fail
  go_cut [17] from 10 to 16 (fun b wx => b = .bool false ∧ wx = w2)
  case first =>
    cases v with
    | true =>
      go_wp2_with fail
      go_meet
      exact ⟨rfl, hw2.symm⟩
    | false =>
      have h1' := h1.out rfl
      go_wp2_with (go_at_call 7; refine Calls.mono (H4.out _) ?_; rintro e w' ⟨rfl, rfl⟩)
      go_meet
      exact ⟨rfl, hw2.symm⟩
  case rest =>
    obtain ⟨rfl, rfl⟩ := hcut
    clear hw2
    rename World => w2
    go_upto_region 3 with fail
    obtain ⟨x0, x1, x2, x3, x4, x5, x6⟩ := PBox.cells' Hb1.out
    simp only at x0 x1 x2 x3 x4 x5
    go_cut [28] from 21 to 27 (fun b wx => b = .bool false ∧ wx = w2)
    case first =>
      cases v with
      | true =>
        go_wp2_with fail
        go_meet
        exact ⟨rfl, rfl⟩
      | false =>
        have h2' := h2.out rfl
        go_wp2_with (go_at_call 7; refine Calls.mono (H9.out _) ?_; rintro e w' ⟨rfl, rfl⟩)
        go_meet
        exact ⟨rfl, rfl⟩
    case rest =>
      obtain ⟨rfl, rfl⟩ := hcut
      rename World => w2
      clear H4 H9 h1 h2
      go_upto_region 10 with fail
      have hd : Below w2.heap.size w2 w2.drew := (Below.refl _ _).drew
      have Hc1 : Hid (PBox w2.drew _ _) := PBox.below Hb1.out hd
      have Hc2 : Hid (PBox w2.drew _ _) := PBox.below Hb2.out hd
      have Hw3 : Hid (Below w.heap.size w w2.drew) := Below.then Hw2.out hd (Nat.le_refl _)
      clear hd Hb1 Hb2 Hw2 x0 x1 x2 x3 x4 x5 x6
      refine region_any (C := fun wx => PBox wx w.heap.size ⟨k, n, oo, a, s, p, len, cap⟩) (by kernel_rfl) ?_
      refine anyIn_read (i := 0) rfl (by kernel_rfl) (by kernel_rfl) (by kernel_rfl) (fun _ _ _ _ h => h) ?_
      apply Exists.intro
      refine ⟨Or.inl ⟨by rfl, fun wx hwx => ?_⟩, ?_⟩
      (go_simp; first | done | with_reducible rfl)
      refine anyIn_read (i := 1) rfl (by kernel_rfl) (by kernel_rfl) (by kernel_rfl) (fun _ _ _ _ h => h) ?_
      apply Exists.intro
      refine ⟨Or.inl ⟨by rfl, fun wx hwx => ?_⟩, ?_⟩
      (obtain ⟨f0, f1, f2, f3, f4, f5, f6⟩ := PBox.cells' hwx; go_simp; first | done | with_reducible rfl)
      refine anyIn_read (i := 2) rfl (by kernel_rfl) (by kernel_rfl) (by kernel_rfl) (fun _ _ _ _ h => h) ?_
      apply Exists.intro
      refine ⟨Or.inl ⟨by rfl, fun wx hwx => ?_⟩, ?_⟩
      (go_simp; first | done | with_reducible rfl)
      generalize w2.drew = w3 at *
      refine anyIn_one (i := 3) Hc1.out rfl (by kernel_rfl) (fun K hK => ?_)
      go_simp
      refine Calls.mono (Hof.out w3) ?_
      rintro e1 w4 ⟨rfl, rfl⟩
      refine hK _ _ ?_
      clear hK K
      rename World => w3
      refine anyIn_one (i := 4) Hc1.out rfl (by kernel_rfl) (fun K hK => ?_)
      go_simp
      refine Calls.mono (Hp.out w3) ?_
      rintro e1 w4 ⟨rfl, rfl⟩
      refine hK _ _ ?_
      clear hK K
      rename World => w3
      refine anyIn_read (i := 5) rfl (by kernel_rfl) (by kernel_rfl) (by kernel_rfl) (fun _ _ _ _ h => h) ?_
      apply Exists.intro
      refine ⟨Or.inl ⟨by rfl, fun wx hwx => ?_⟩, ?_⟩
      (go_simp; first | done | with_reducible rfl)
      refine anyIn_done Hc1.out (by kernel_rfl) ?_
      go_upto_region 11 with fail
      go_wp2_with fail
      refine Calls.mono (Hof.out w3) ?_
      rintro e1 w4 ⟨rfl, rfl⟩
      rename World => w3
      go_wp2_with fail
      refine Calls.mono (con_any rr cnt w3) ?_
      rintro e1 w4 ⟨rfl, hb4⟩
      have hb5 : Below w3.heap.size w3 (w4.alloc (PC.obj ⟨6, rr, cnt, 0, { data := #[] }, none, 0, 0⟩)) := hb4.alloc hb4.size _
      have Hd1 : Hid (PBox _ _ _) := PBox.below Hc1.out hb5
      have Hd2 : Hid (PBox _ _ _) := PBox.below Hc2.out hb5
      have Hd8 : Hid (PBox _ w4.heap.size ⟨6, rr, cnt, 0, { data := #[] }, none, 0, 0⟩) := pbox_new w4 _
      have Hw5 : Hid (Below w.heap.size w _) := Below.then Hw3.out hb5 (Nat.le_refl _)
      have H28 : Hid (w.heap.size + 1 < w4.heap.size) := Nat.lt_of_lt_of_le (PBox.lt Hc2.out) hb4.size
      clear hb4 hb5 Hc1 Hc2 Hw3 Hp Hof
      go_upto_region 12 with fail
      change Code.wp _ _ _ _ (w4.alloc (PC.obj ⟨6, rr, cnt, 0, { data := #[] }, none, 0, 0⟩))
      generalize w4.alloc (PC.obj ⟨6, rr, cnt, 0, { data := #[] }, none, 0, 0⟩) = w5 at *
      generalize w4.heap.size = b8 at *
      obtain ⟨x0, x1, x2, x3, x4, x5, x6⟩ := PBox.cells' Hd1.out
      simp only at x0 x1 x2 x3 x4 x5
      by_cases hE : v = true ∧ len = 0 ∧ tn = 3
      · obtain ⟨rfl, rfl, rfl⟩ := hE
        have hl := Hlst.out rfl
        clear Hlst Hparts Hpart
        go_upto_region 13 with fail
        go_wp2_with fail
        refine Calls.mono (con_any 0 2 w5) ?_
        rintro e1 w6 ⟨rfl, hb6⟩
        have hbx3 := PBox.below Hd2.out hb6
        have Hw6 : Hid (Below w.heap.size w w6) := Below.then Hw5.out hb6 (Nat.le_refl _)
        clear hb6 Hd1 Hd2 Hd8 Hw5 x0 x1 x2 x3 x4 x5 x6
        obtain ⟨y0, y1, y2, y3, y4, y5, y6⟩ := PBox.cells' hbx3
        have z0 := PBox.frozen hbx3 0
        have z1 := PBox.frozen hbx3 1
        have z2 := PBox.frozen hbx3 2
        have z3 := PBox.frozen hbx3 3
        have z4 := PBox.frozen hbx3 4
        have z5 := PBox.frozen hbx3 5
        have hset := PBox.set6 hbx3 ⟨6, 0, 2, 0, { data := #[] }, none, 0, 0⟩
        have Hbl : Hid (Below w.heap.size w (set6 w6 (w.heap.size + 1) ⟨6, 0, 2, 0, { data := #[] }, none, 0, 0⟩)) := Below.set6 Hw6.out (by omega) _
        obtain ⟨r0, r1, r2, r3, r4, r5, r6⟩ := hset.cells'
        unfold set6 at r0 r1 r2 r3 r4 r5 Hbl
        have HR : Hid _ := (⟨r0, r1, r2, r3, r4, r5⟩ : _ ∧ _ ∧ _ ∧ _ ∧ _ ∧ _)
        clear hset r0 r1 r2 r3 r4 r5 r6 hbx3
        simp only [PC.any] at y0 y1 y2 y3 y4 y5
        go_wp2
        obtain ⟨r0, r1, r2, r3, r4, r5⟩ := HR.out
        subst hl
        refine bodyPost_ret (v := PC.val ⟨6, 0, 2, 0, { data := #[] }, none, 0, 0⟩) ?_ rfl (FitPost.mk ⟨6, 0, 2, 0, { data := #[] }, none, 0, 0⟩ (.mk 6 0 2 0 { data := #[] } []) rfl (Fresh.leaf _ _ 6 0 2 (by decide)) (con_good (by decide)) rfl (con_wt (t := .lst) rfl (by decide) rfl) (fun _ => con_vt (t := .lst) rfl (by decide) rfl) Hbl.out (by simp only [cntP, cntL]; omega))
        simp [results, Try.results9, go_sem, r0, r1, r2, r3, r4, r5, PC.val]
      · clear Hlst
        go_cut [69] from 59 to 68 (fun b wx => b = .bool false ∧ wx = w5)
        case first =>
          cases v with
          | false =>
            go_wp2_with fail
            go_meet
            exact ⟨rfl, rfl⟩
          | true =>
            by_cases hl : len = 0
            · subst hl
              have ht3 : (tn == 3) = false := by
                simp at hE
                simpa using hE
              go_wp2_with fail
              go_meet
              exact ⟨rfl, rfl⟩
            · have hl' : ((len : Int) == 0) = false := by
                simp
                omega
              clear hE
              go_wp2_with fail
              go_meet
              exact ⟨rfl, rfl⟩
        case rest =>
          obtain ⟨rfl, rfl⟩ := hcut
          rename World => w5
          clear hE
          go_upto_region 14 with fail
          go_wp2_with fail
          refine Calls.mono (Hparts.out w5) ?_
          rintro e1 w6 ⟨rfl, rfl⟩
          rename World => w5
          rcases Hpart.out with ⟨hp, ha⟩ | ⟨hp, ha⟩ | ⟨s', hs, hp, ha⟩
          · subst hp
            clear Hpart Hparts
            have hbx3 := Hd2.out
            obtain ⟨q0, q1, q2, q3, q4, q5, q6⟩ := PBox.cells' Hd8.out
            have Hw6 := Hw5
            simp only at q0 q1 q2 q3 q4 q5
            go_upto_region 19 with fail
            clear x0 x1 x2 x3 x4 x5 x6
            obtain ⟨y0, y1, y2, y3, y4, y5, y6⟩ := PBox.cells' hbx3
            have z0 := PBox.frozen hbx3 0
            have z1 := PBox.frozen hbx3 1
            have z2 := PBox.frozen hbx3 2
            have z3 := PBox.frozen hbx3 3
            have z4 := PBox.frozen hbx3 4
            have z5 := PBox.frozen hbx3 5
            have hset := PBox.set6 hbx3 ⟨6, rr, cnt, 0, { data := #[] }, none, 0, 0⟩
            have Hbl : Hid (Below w.heap.size w (set6 w5 (w.heap.size + 1) ⟨6, rr, cnt, 0, { data := #[] }, none, 0, 0⟩)) := Below.set6 Hw6.out (by omega) _
            obtain ⟨r0, r1, r2, r3, r4, r5, r6⟩ := hset.cells'
            unfold set6 at r0 r1 r2 r3 r4 r5 Hbl
            have HR : Hid _ := (⟨r0, r1, r2, r3, r4, r5⟩ : _ ∧ _ ∧ _ ∧ _ ∧ _ ∧ _)
            clear hset r0 r1 r2 r3 r4 r5 r6 hbx3
            simp only [PC.any] at y0 y1 y2 y3 y4 y5
            go_wp2
            obtain ⟨r0, r1, r2, r3, r4, r5⟩ := HR.out
            obtain ⟨k6, c3⟩ := Hk6.out
            have hl := Hl.out
            subst hcn
            refine bodyPost_ret (v := PC.val ⟨6, rr, t.cnt, 0, { data := #[] }, none, 0, 0⟩) ?_ rfl (FitPost.mk ⟨6, rr, t.cnt, 0, { data := #[] }, none, 0, 0⟩ (.mk 6 rr t.cnt 0 { data := #[] } []) rfl (Fresh.leaf _ _ 6 rr t.cnt (by omega)) (con_good hl) rfl (con_wt k6 hl ha) (fun _ => con_vt k6 hl ha) Hbl.out (by simp only [cntP, cntL]; omega))
            simp [results, Try.results9, go_sem, r0, r1, r2, r3, r4, r5, PC.val]
          · subst hp
            clear Hpart Hparts
            go_upto_region 16 with fail
            go_wp2_with fail
            refine Calls.mono (pair_any wb P _ HP.out .p13 .lst (Or.inr ⟨rfl, rfl⟩) v (HK.out (by rw [ha]; simp) 0 .two (by simp)) (HK.out (by rw [ha]; simp) 1 .lst (by simp)) w5 (Below.trans Hbw.out (Hw5.out.mono Hbw.out.size))) ?_
            rintro e1 w6 ⟨cx, X, rfl, hX, hXg, hXz, hXw, hXv, hb6, hXn⟩
            have hb7 : Below w5.heap.size w5 (w6.alloc cx.obj) := hb6.alloc hb6.size _
            have hg8 := PBox.below Hd8.out hb7
            have hg2 := PBox.below Hd2.out hb7
            have hw7 : Below w.heap.size w (w6.alloc cx.obj) := Below.then Hw5.out hb7 (Nat.le_refl _)
            have hN1 : w.heap.size + 1 < w5.heap.size := PBox.lt Hd2.out
            have hN2 : b8 < w5.heap.size := PBox.lt Hd8.out
            have hin := one_in 6 rr cnt (by have := Hk6.out.2; omega) hX hb6.size
            have hin8 := hin.set1 (b := b8) hN2 5 (.slice (some ⟨w6.heap.size, 0, none⟩) 1 1)
            have Hg8 : Hid (PBox _ b8 _) := hg8.set5 w6.heap.size
            have h28 := H28.out
            have Hg2 : Hid (PBox ((w6.alloc cx.obj).setCell ⟨b8, 5, none⟩ (.slice (some ⟨w6.heap.size, 0, none⟩) 1 1)) (w.heap.size + 1) PC.any) := (set1_ne (w6.alloc cx.obj) b8 5 (.slice (some ⟨w6.heap.size, 0, none⟩) 1 1) (w.heap.size + 1) (by omega)).trans hg2
            have Hw8 : Hid (Below w.heap.size w ((w6.alloc cx.obj).setCell ⟨b8, 5, none⟩ (.slice (some ⟨w6.heap.size, 0, none⟩) 1 1))) := hw7.setCell (p := ⟨b8, 5, none⟩) (show w.heap.size ≤ b8 by omega) _
            have HF8 : Hid (Fresh w.heap.size _ _ _) := Fresh.low (Fresh.set6 hin8 (b := w.heap.size + 1) hN1 (PC.one 6 rr cnt w6.heap.size)) (by omega)
            have hg86 := PBox.below Hd8.out hb6
            obtain ⟨q0, q1, q2, q3, q4, q5, q6⟩ := hg86.cells'
            have qz := hg86.frozen 5
            clear hg86 hb6 hb7 hg8 hg2 hw7 hin hin8 hX x0 x1 x2 x3 x4 x5 x6 hN1 hN2 h28 Hd1 Hd2 Hd8 Hw5
            obtain ⟨ek, en, eo, ea, es, ep, el, ec⟩ := cx
            simp only [PC.val, PC.obj] at *
            go_upto_region 19 with fail
            have hcomm : (w6.alloc (Obj.cells #[Value.int IntKind.i64 ek, Value.int IntKind.i64 en, Value.int IntKind.i64 eo, Value.int IntKind.i64 ea, Value.string es, Value.slice ep el ec] 26)).setCell ⟨b8, 5, none⟩ (.slice (some ⟨w6.heap.size, 0, none⟩) 1 1) = (w6.setCell ⟨b8, 5, none⟩ (.slice (some ⟨w6.heap.size, 0, none⟩) 1 1)).alloc (Obj.cells #[Value.int IntKind.i64 ek, Value.int IntKind.i64 en, Value.int IntKind.i64 eo, Value.int IntKind.i64 ea, Value.string es, Value.slice ep el ec] 26) := by go_simp
            rw [← hcomm]
            clear hcomm
            generalize (w6.alloc (Obj.cells #[Value.int IntKind.i64 ek, Value.int IntKind.i64 en, Value.int IntKind.i64 eo, Value.int IntKind.i64 ea, Value.string es, Value.slice ep el ec] 26)).setCell ⟨b8, 5, none⟩ (.slice (some ⟨w6.heap.size, 0, none⟩) 1 1) = w8 at *
            generalize w6.heap.size = b6 at *
            clear q0 q1 q2 q3 q4 q5 q6 qz
            obtain ⟨q0, q1, q2, q3, q4, q5, q6⟩ := PBox.cells' Hg8.out
            have hbx3 := Hg2.out
            have Hw6 := Hw8
            clear Hg8 Hg2 Hw8
            simp only [PC.one] at q0 q1 q2 q3 q4 q5 HF8
            obtain ⟨y0, y1, y2, y3, y4, y5, y6⟩ := PBox.cells' hbx3
            have z0 := PBox.frozen hbx3 0
            have z1 := PBox.frozen hbx3 1
            have z2 := PBox.frozen hbx3 2
            have z3 := PBox.frozen hbx3 3
            have z4 := PBox.frozen hbx3 4
            have z5 := PBox.frozen hbx3 5
            have hset := PBox.set6 hbx3 ⟨6, rr, cnt, 0, { data := #[] }, some ⟨b6, 0, none⟩, 1, 1⟩
            have Hbl : Hid (Below w.heap.size w (set6 w8 (w.heap.size + 1) ⟨6, rr, cnt, 0, { data := #[] }, some ⟨b6, 0, none⟩, 1, 1⟩)) := Below.set6 Hw6.out (by omega) _
            obtain ⟨r0, r1, r2, r3, r4, r5, r6⟩ := hset.cells'
            unfold set6 at r0 r1 r2 r3 r4 r5 Hbl HF8
            have HR : Hid _ := (⟨r0, r1, r2, r3, r4, r5⟩ : _ ∧ _ ∧ _ ∧ _ ∧ _ ∧ _)
            clear hset r0 r1 r2 r3 r4 r5 r6 hbx3
            simp only [PC.any] at y0 y1 y2 y3 y4 y5
            go_wp2
            obtain ⟨r0, r1, r2, r3, r4, r5⟩ := HR.out
            obtain ⟨k6, c3⟩ := Hk6.out
            have hl := Hl.out
            subst hcn
            refine bodyPost_ret (v := PC.val ⟨6, rr, t.cnt, 0, { data := #[] }, some ⟨b6, 0, none⟩, 1, 1⟩) ?_ rfl (FitPost.mk ⟨6, rr, t.cnt, 0, { data := #[] }, some ⟨b6, 0, none⟩, 1, 1⟩ (.mk 6 rr t.cnt 0 { data := #[] } [X]) rfl HF8.out (con1_good hl hXg) (by simp [Pt.nz, Pt.nzL, hXz]) (con1_wt k6 hl ha hXw) (fun hv => con1_vt k6 hl ha (hXv hv)) Hbl.out (by simp only [cntP, cntL]; omega))
            simp [results, Try.results9, go_sem, r0, r1, r2, r3, r4, r5, PC.val]
          · have hm2 : (s'.nr == -2) = false := by cases s' <;> decide
            have hge : decide (s'.nr ≥ 0) = true := by cases s' <;> decide
            generalize hsn : s'.nr = sn at *
            subst hp
            clear Hpart Hparts
            go_upto_region 18 with fail
            go_wp2_with fail
            refine Calls.mono (kid_any wb _ P HP.out 0 w5 (Below.trans Hbw.out (Hw5.out.mono Hbw.out.size))) ?_
            rintro e1 w6 ⟨c6, rfl, hP6, hbk⟩
            have Hbk : Hid (Below w5.heap.size w5 w6) := hbk
            have Hbw6 : Hid (Below wb.heap.size wb w6) := Below.trans Hbw.out ((Below.then Hw5.out hbk (Nat.le_refl _)).mono Hbw.out.size)
            clear hbk
            obtain ⟨ck, cn, co, ca, cs, cp, cl, cc⟩ := c6
            simp only [PC.val]
            go_wp2_with fail
            subst hsn
            refine Calls.mono (HK.out (by rw [ha]; simp) 0 s' hs _ hP6 w6 Hbw6.out) ?_
            rintro e1 w9 ⟨cx, X, rfl, hX9, hXg, hXz, hXw, hXv, hb9, hXn⟩
            have hX := hX9.low Hbk.out.size
            have hb6 : Below w5.heap.size w5 w9 := Below.then Hbk.out hb9 (Nat.le_refl _)
            clear hX9 hb9 Hbk Hbw6
            rename World => w6
            have hb7 : Below w5.heap.size w5 (w6.alloc cx.obj) := hb6.alloc hb6.size _
            have hg8 := PBox.below Hd8.out hb7
            have hg2 := PBox.below Hd2.out hb7
            have hw7 : Below w.heap.size w (w6.alloc cx.obj) := Below.then Hw5.out hb7 (Nat.le_refl _)
            have hN1 : w.heap.size + 1 < w5.heap.size := PBox.lt Hd2.out
            have hN2 : b8 < w5.heap.size := PBox.lt Hd8.out
            have hin := one_in 6 rr cnt (by have := Hk6.out.2; omega) hX hb6.size
            have hin8 := hin.set1 (b := b8) hN2 5 (.slice (some ⟨w6.heap.size, 0, none⟩) 1 1)
            have Hg8 : Hid (PBox _ b8 _) := hg8.set5 w6.heap.size
            have h28 := H28.out
            have Hg2 : Hid (PBox ((w6.alloc cx.obj).setCell ⟨b8, 5, none⟩ (.slice (some ⟨w6.heap.size, 0, none⟩) 1 1)) (w.heap.size + 1) PC.any) := (set1_ne (w6.alloc cx.obj) b8 5 (.slice (some ⟨w6.heap.size, 0, none⟩) 1 1) (w.heap.size + 1) (by omega)).trans hg2
            have Hw8 : Hid (Below w.heap.size w ((w6.alloc cx.obj).setCell ⟨b8, 5, none⟩ (.slice (some ⟨w6.heap.size, 0, none⟩) 1 1))) := hw7.setCell (p := ⟨b8, 5, none⟩) (show w.heap.size ≤ b8 by omega) _
            have HF8 : Hid (Fresh w.heap.size _ _ _) := Fresh.low (Fresh.set6 hin8 (b := w.heap.size + 1) hN1 (PC.one 6 rr cnt w6.heap.size)) (by omega)
            have hg86 := PBox.below Hd8.out hb6
            obtain ⟨q0, q1, q2, q3, q4, q5, q6⟩ := hg86.cells'
            have qz := hg86.frozen 5
            clear hg86 hb6 hb7 hg8 hg2 hw7 hin hin8 hX x0 x1 x2 x3 x4 x5 x6 hN1 hN2 h28 Hd1 Hd2 Hd8 Hw5
            obtain ⟨ek, en, eo, ea, es, ep, el, ec⟩ := cx
            simp only [PC.val, PC.obj] at *
            go_upto_region 19 with fail
            have hcomm : (w6.alloc (Obj.cells #[Value.int IntKind.i64 ek, Value.int IntKind.i64 en, Value.int IntKind.i64 eo, Value.int IntKind.i64 ea, Value.string es, Value.slice ep el ec] 26)).setCell ⟨b8, 5, none⟩ (.slice (some ⟨w6.heap.size, 0, none⟩) 1 1) = (w6.setCell ⟨b8, 5, none⟩ (.slice (some ⟨w6.heap.size, 0, none⟩) 1 1)).alloc (Obj.cells #[Value.int IntKind.i64 ek, Value.int IntKind.i64 en, Value.int IntKind.i64 eo, Value.int IntKind.i64 ea, Value.string es, Value.slice ep el ec] 26) := by go_simp
            rw [← hcomm]
            clear hcomm
            generalize (w6.alloc (Obj.cells #[Value.int IntKind.i64 ek, Value.int IntKind.i64 en, Value.int IntKind.i64 eo, Value.int IntKind.i64 ea, Value.string es, Value.slice ep el ec] 26)).setCell ⟨b8, 5, none⟩ (.slice (some ⟨w6.heap.size, 0, none⟩) 1 1) = w8 at *
            generalize w6.heap.size = b6 at *
            clear q0 q1 q2 q3 q4 q5 q6 qz
            obtain ⟨q0, q1, q2, q3, q4, q5, q6⟩ := PBox.cells' Hg8.out
            have hbx3 := Hg2.out
            have Hw6 := Hw8
            clear Hg8 Hg2 Hw8
            simp only [PC.one] at q0 q1 q2 q3 q4 q5 HF8
            obtain ⟨y0, y1, y2, y3, y4, y5, y6⟩ := PBox.cells' hbx3
            have z0 := PBox.frozen hbx3 0
            have z1 := PBox.frozen hbx3 1
            have z2 := PBox.frozen hbx3 2
            have z3 := PBox.frozen hbx3 3
            have z4 := PBox.frozen hbx3 4
            have z5 := PBox.frozen hbx3 5
            have hset := PBox.set6 hbx3 ⟨6, rr, cnt, 0, { data := #[] }, some ⟨b6, 0, none⟩, 1, 1⟩
            have Hbl : Hid (Below w.heap.size w (set6 w8 (w.heap.size + 1) ⟨6, rr, cnt, 0, { data := #[] }, some ⟨b6, 0, none⟩, 1, 1⟩)) := Below.set6 Hw6.out (by omega) _
            obtain ⟨r0, r1, r2, r3, r4, r5, r6⟩ := hset.cells'
            unfold set6 at r0 r1 r2 r3 r4 r5 Hbl HF8
            have HR : Hid _ := (⟨r0, r1, r2, r3, r4, r5⟩ : _ ∧ _ ∧ _ ∧ _ ∧ _ ∧ _)
            clear hset r0 r1 r2 r3 r4 r5 r6 hbx3
            simp only [PC.any] at y0 y1 y2 y3 y4 y5
            go_wp2
            obtain ⟨r0, r1, r2, r3, r4, r5⟩ := HR.out
            obtain ⟨k6, c3⟩ := Hk6.out
            have hl := Hl.out
            subst hcn
            refine bodyPost_ret (v := PC.val ⟨6, rr, t.cnt, 0, { data := #[] }, some ⟨b6, 0, none⟩, 1, 1⟩) ?_ rfl (FitPost.mk ⟨6, rr, t.cnt, 0, { data := #[] }, some ⟨b6, 0, none⟩, 1, 1⟩ (.mk 6 rr t.cnt 0 { data := #[] } [X]) rfl HF8.out (con1_good hl hXg) (by simp [Pt.nz, Pt.nzL, hXz]) (con1_wt k6 hl ha hXw) (fun hv => con1_vt k6 hl ha (hXv hv)) Hbl.out (by simp only [cntP, cntL]; omega))
            simp [results, Try.results9, go_sem, r0, r1, r2, r3, r4, r5, PC.val]
end
end Go.Proofs.Ytjhfomfaddfklaa
