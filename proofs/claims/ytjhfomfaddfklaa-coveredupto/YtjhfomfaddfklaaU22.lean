/-
  The law Covered's own functions, five: fitted where it makes a name for a part.
-/
import Derived.Test.YtjhfomfaddfklaaU21
namespace Go.Proofs.Ytjhfomfaddfklaa
open Go.RowKit Go.Deep
/-- A pattern with one kid. -/
def PC.one (k n o : Int) (b : Nat) : PC := ⟨k, n, o, 0, { data := #[] }, some ⟨b, 0, none⟩, 1, 1⟩
theorem one_in {N : Nat} {w : World} {c : PC} {A : Pt} (k n o : Int) (ho : o ≤ 9223372036854775807) (hA : Fresh N w c A) (hN : N ≤ w.heap.size) : Fresh N (w.alloc c.obj) (PC.one k n o w.heap.size) (.mk k n o 0 { data := #[] } [A]) := by
  intro w' hw'
  have hb : Below w.heap.size w (w.alloc c.obj) := (Below.refl _ _).alloc (Nat.le_refl _) _
  have hg : PBox w' w.heap.size c := (hw' _ hN (by simp)).trans (MapKept.heap_alloc w _).1
  have hA' := hA.keep hb w' hw'
  refine PtIn.mk (PC.one k n o w.heap.size) [A] w.heap.size 0 (fun _ => c) rfl (by simp [maxLen]) (Nat.le_refl _) (fun h => by cases h) ho (fun _ => rfl) (fun i hi => ?_) (fun i hi => ?_)
  · obtain rfl : i = 0 := by simpa using hi
    simpa using hg.cells
  · obtain rfl : i = 0 := by simpa using hi
    exact hA'
theorem as_good {A : Pt} (n : Int) (hA : A.good = true) : (Pt.mk 2 n 0 0 { data := #[] } [A]).good = true := by simp [Pt.good, Pt.goodL, okP, hA]
section
set_option maxHeartbeats 8000000
set_option maxRecDepth 100000
theorem fit_as (wb : World) (P : Pt) (c : PC) (hP : PtIn wb c P) (t : Sr) {N0 : Nat} (hK : FitAt wb (kidP P 0) t false N0) (w : World) (hbw : Below wb.heap.size wb w) (hk : -9223372036854775808 ≤ c.k) (hC : pickP c.k 4 ≠ 0) (hC2 : pickP c.k 9 = 1) : Calls Try.prog 9 #[c.val, .int .i64 t.nr, .bool false] w fun e w' => FitPost (1 + N0) t false w e w' := by
  have HK : Hid (FitAt wb (kidP P 0) t false N0) := hK
  have HP : Hid (PtIn wb c P) := hP
  have Hbw : Hid (Below wb.heap.size wb w) := hbw
  obtain ⟨k, n, oo, a, s, p, len, cap⟩ := c
  simp only [PC.val] at *
  have H4 : Hid _ := fun w => pick_any k 4 hk (by decide) w
  have H9 : Hid _ := fun w => pick_any k 9 hk (by decide) w
  rw [hC2] at H9
  have h1' : (pickP k 4 == 0) = false := by simpa using hC
  generalize pickP k 4 = r4 at *
  clear hk hC hC2 hK hP hbw
  generalize htn : t.nr = tn at *
  have hw2' := below2 w (PC.obj ⟨k, n, oo, a, s, p, len, cap⟩) (PC.obj PC.any)
  have hb1 := (pbox_new w ⟨k, n, oo, a, s, p, len, cap⟩).below ((Below.refl _ _).alloc (Nat.le_refl _) (PC.obj PC.any))
  have hb2 := pbox_new (w.alloc (PC.obj ⟨k, n, oo, a, s, p, len, cap⟩)) PC.any
  have e1 : (w.alloc (PC.obj ⟨k, n, oo, a, s, p, len, cap⟩)).heap.size = w.heap.size + 1 := by simp
  rw [e1] at hb2
  have Hb1 : Hid (PBox _ _ _) := hb1
  have Hb2 : Hid (PBox _ _ _) := hb2
  have Hw2 : Hid (Below _ w _) := hw2'
  clear hw2' hb1 hb2 e1
  obtain ⟨w2, hw2⟩ : ∃ w2, w2 = (w.alloc (PC.obj ⟨k, n, oo, a, s, p, len, cap⟩)).alloc (PC.obj PC.any) := ⟨_, rfl⟩
  rw [← hw2] at Hb1 Hb2 Hw2
  go_enter Try.func9, Try.ntmps9
  go_upto_region 3 with (go_at_call 7; refine Calls.mono (H4.out _) ?_; rintro e w' ⟨rfl, rfl⟩)
  go_upto_region 4 with (go_at_call 7; refine Calls.mono (H9.out _) ?_; rintro e w' ⟨rfl, rfl⟩)
  change Code.wp _ _ _ _ ((w.alloc (PC.obj ⟨k, n, oo, a, s, p, len, cap⟩)).alloc (PC.obj PC.any))
  rw [← hw2]
  clear hw2
  have hd : Below w2.heap.size w2 w2.drew := (Below.refl _ _).drew
  have Hc1 : Hid (PBox w2.drew _ _) := PBox.below Hb1.out hd
  have Hc2 : Hid (PBox w2.drew _ _) := PBox.below Hb2.out hd
  have Hw3 : Hid (Below w.heap.size w w2.drew) := Below.then Hw2.out hd (Nat.le_refl _)
  clear hd Hb1 Hb2 Hw2 H4 H9 h1'
  refine region_any (C := fun wx => PBox wx w.heap.size ⟨k, n, oo, a, s, p, len, cap⟩) (by kernel_rfl) ?_
  refine anyIn_read (i := 0) rfl (by kernel_rfl) (by kernel_rfl) (by kernel_rfl) (fun _ _ _ _ h => h) ?_
  apply Exists.intro
  refine ⟨Or.inl ⟨by rfl, fun wx hwx => ?_⟩, ?_⟩
  (go_simp; first | done | with_reducible rfl)
  refine anyIn_read (i := 1) rfl (by kernel_rfl) (by kernel_rfl) (by kernel_rfl) (fun _ _ _ _ h => h) ?_
  apply Exists.intro
  refine ⟨Or.inl ⟨by rfl, fun wx hwx => ?_⟩, ?_⟩
  (obtain ⟨f0, f1, f2, f3, f4, f5, f6⟩ := PBox.cells' hwx; go_simp; first | done | with_reducible rfl)
  refine anyIn_read (i := 2) rfl (by kernel_rfl) (by kernel_rfl) (by kernel_rfl) (fun _ _ _ _ h => h) ?_
  apply Exists.intro
  refine ⟨Or.inl ⟨by rfl, fun wx hwx => ?_⟩, ?_⟩
  (obtain ⟨f0, f1, f2, f3, f4, f5, f6⟩ := PBox.cells' hwx; go_simp; first | done | with_reducible rfl)
  refine anyIn_read (i := 4) rfl (by kernel_rfl) (by kernel_rfl) (by kernel_rfl) (fun _ _ _ _ h => h) ?_
  apply Exists.intro
  refine ⟨Or.inl ⟨by rfl, fun wx hwx => ?_⟩, ?_⟩
  (go_simp; first | done | with_reducible rfl)
  refine anyIn_read (i := 5) rfl (by kernel_rfl) (by kernel_rfl) (by kernel_rfl) (fun _ _ _ _ h => h) ?_
  apply Exists.intro
  refine ⟨Or.inl ⟨by rfl, fun wx hwx => ?_⟩, ?_⟩
  (go_simp; first | done | with_reducible rfl)
  generalize w2.drew = w3 at *
  refine anyIn_one (i := 3) Hc1.out rfl (by kernel_rfl) (fun K hK => ?_)
  go_simp
  refine Calls.mono (kid_any wb _ P HP.out 0 w3 (Below.trans Hbw.out (Hw3.out.mono Hbw.out.size))) ?_
  rintro e1 w4 ⟨c4, rfl, hP4, hb4⟩
  refine hK _ _ ?_
  clear hK K
  have Hc1' : Hid (PBox w4 _ _) := PBox.below Hc1.out hb4
  have Hc2' : Hid (PBox w4 _ _) := PBox.below Hc2.out hb4
  have Hw4 : Hid (Below w.heap.size w w4) := Below.then Hw3.out hb4 (Nat.le_refl _)
  clear Hc1 Hc2 Hw3 hb4
  obtain ⟨N, hN⟩ : ∃ N, N = w.heap.size + 2 := ⟨_, rfl⟩
  have hN4 : N ≤ w4.heap.size := by have := PBox.lt Hc2'.out; omega
  refine anyIn_one (i := 6) Hc1'.out rfl (by kernel_rfl) (fun K hK => ?_)
  obtain ⟨ck, cn, co, ca, cs, cp, cl, cc⟩ := c4
  simp only [PC.val]
  go_simp
  subst htn
  refine Calls.mono (HK.out _ hP4 w4 (Below.trans Hbw.out (Hw4.out.mono Hbw.out.size))) ?_
  rintro e1 w7 ⟨c5, A, rfl, hA, hAg, hAz, hAw, hAv, hb7, hAn⟩
  refine hK _ _ ?_
  clear hK K
  have Hf1 : Hid (PBox w7 _ _) := PBox.below Hc1'.out hb7
  have Hf2 : Hid (PBox w7 _ _) := PBox.below Hc2'.out hb7
  have Hw7 : Hid (Below w.heap.size w w7) := Below.then Hw4.out hb7 (Nat.le_refl _)
  have hz7 : N ≤ w7.heap.size := Nat.le_trans hN4 hb7.size
  clear Hc1' Hc2' Hw4 hb7
  have hb8 : Below w7.heap.size w7 (w7.alloc c5.obj) := (Below.refl _ _).alloc (Nat.le_refl _) _
  have Hg1 : Hid (PBox _ _ _) := PBox.below Hf1.out hb8
  have Hg2 : Hid (PBox _ _ _) := PBox.below Hf2.out hb8
  have Hw8 : Hid (Below w.heap.size w _) := Below.then Hw7.out hb8 (Nat.le_refl _)
  have Hin : Hid (Fresh N _ _ _) := one_in 2 n 0 (by decide) (hA.low hN4) hz7
  refine anyIn_one (i := 7) Hf1.out rfl (by kernel_rfl) (fun K hK => ?_)
  clear hb8 Hf1 Hf2 Hw7 hA
  obtain ⟨ek, en, eo, ea, es, ep, el, ec⟩ := c5
  simp only [PC.val]
  go_simp
  refine hK _ _ ?_
  clear hK K
  simp only [PC.obj] at Hg1 Hg2 Hw8 Hin
  generalize w7.alloc (Obj.cells #[Value.int IntKind.i64 ek, Value.int IntKind.i64 en, Value.int IntKind.i64 eo, Value.int IntKind.i64 ea, Value.string es, Value.slice ep el ec] 26) = w8 at *
  generalize w7.heap.size = b7 at *
  refine anyIn_read (i := 8) rfl (by kernel_rfl) (by kernel_rfl) (by kernel_rfl) (fun _ _ _ _ h => h) ?_
  apply Exists.intro
  refine ⟨Or.inl ⟨by rfl, fun wx hwx => ?_⟩, ?_⟩
  (go_simp; first | done | with_reducible rfl)
  have hbx3 := Hg2.out
  obtain ⟨y0, y1, y2, y3, y4, y5, y6⟩ := PBox.cells' hbx3
  have z0 := PBox.frozen hbx3 0
  have z1 := PBox.frozen hbx3 1
  have z2 := PBox.frozen hbx3 2
  have z3 := PBox.frozen hbx3 3
  have z4 := PBox.frozen hbx3 4
  have z5 := PBox.frozen hbx3 5
  have hset := PBox.set6 hbx3 (PC.one 2 n 0 b7)
  have Hbl : Hid (Below w.heap.size w (set6 w8 (w.heap.size + 1) (PC.one 2 n 0 b7))) := Below.set6 Hw8.out (by omega) _
  have HC9 : Hid (PBox (set6 w8 (w.heap.size + 1) (PC.one 2 n 0 b7)) w.heap.size ⟨k, n, oo, a, s, p, len, cap⟩) := (set6_ne w8 _ _ _ (by omega)).trans Hg1.out
  have HF : Hid (Fresh w.heap.size _ _ _) := Fresh.low (Fresh.set6 Hin.out (b := w.heap.size + 1) (by omega) (PC.one 2 n 0 b7)) (by omega)
  obtain ⟨r0, r1, r2, r3, r4, r5, r6⟩ := hset.cells'
  have HR : Hid _ := (⟨r0, r1, r2, r3, r4, r5⟩ : _ ∧ _ ∧ _ ∧ _ ∧ _ ∧ _)
  clear hset r0 r1 r2 r3 r4 r5 r6 hbx3
  simp only [PC.any] at y0 y1 y2 y3 y4 y5
  refine anyIn_one (i := 9) Hg1.out rfl (by kernel_rfl) (fun K hK => ?_)
  clear Hg1 Hg2 Hin Hw8
  go_simp
  refine hK _ _ ?_
  clear hK K
  change anyIn _ _ _ _ _ _ _ _ (set6 w8 (w.heap.size + 1) (PC.one 2 n 0 b7))
  refine anyIn_done HC9.out (by kernel_rfl) ?_
  generalize set6 w8 (w.heap.size + 1) (PC.one 2 n 0 b7) = w9 at *
  go_wp2
  obtain ⟨r0, r1, r2, r3, r4, r5⟩ := HR.out
  refine bodyPost_ret (v := (PC.one 2 n 0 b7).val) ?_ rfl (FitPost.mk (PC.one 2 n 0 b7) (.mk 2 n 0 0 { data := #[] } [A]) rfl HF.out (as_good n hAg) (by simp [Pt.nz, Pt.nzL, hAz]) (WT.as_ t n 0 0 _ A hAw) (fun h => by cases h) Hbl.out (by simp only [cntP, cntL]; omega))
  simp [results, Try.results9, go_sem, r0, r1, r2, r3, r4, r5, PC.val, PC.one]
end
end Go.Proofs.Ytjhfomfaddfklaa
