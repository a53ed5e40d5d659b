/-
  The law Covered's own functions, three: patterns and values of a sort are made (fitted, pair).
-/
import Derived.Test.YtjhfomfaddfklaaU19
namespace Go.Proofs.Ytjhfomfaddfklaa
open Go.RowKit Go.Deep
def Sr.nr : Sr → Int
  | .num => 0
  | .two => 1
  | .opt => 2
  | .lst => 3
  | .p12 => 4
  | .thr => 5
  | .p13 => 6
/-- The pattern lies in blocks from B on alone. -/
def Fresh (B : Nat) (w : World) (c : PC) (P : Pt) : Prop := ∀ w', (∀ k, B ≤ k → k < w.heap.size → w'.heap[k]? = w.heap[k]?) → PtIn w' c P
theorem Fresh.in_ {B : Nat} {w : World} {c : PC} {P : Pt} (h : Fresh B w c P) : PtIn w c P := h w (fun _ _ _ => rfl)
theorem Fresh.low {B B' : Nat} {w : World} {c : PC} {P : Pt} (h : Fresh B w c P) (hB : B' ≤ B) : Fresh B' w c P := fun w' h' => h w' (fun k h1 h2 => h' k (by omega) h2)
theorem Fresh.keep {B : Nat} {w w' : World} {c : PC} {P : Pt} (h : Fresh B w c P) (hb : Below w.heap.size w w') : Fresh B w' c P := fun w'' h'' => h w'' (fun k h1 h2 => (h'' k h1 (Nat.lt_of_lt_of_le h2 hb.size)).trans (hb.block k h2))
theorem set6_ne (w : World) (b : Nat) (c : PC) (k : Nat) (hk : k ≠ b) : (set6 w b c).heap[k]? = w.heap[k]? := by
  simp [set6, World.setCell, Array.getElem?_modify, Ne.symm hk]
theorem Fresh.set6 {B : Nat} {w : World} {c : PC} {P : Pt} (h : Fresh B w c P) {b : Nat} (hb : b < B) (d : PC) : Fresh B (set6 w b d) c P := fun w'' h'' => h w'' (fun k h1 h2 => (h'' k h1 (by rw [set6_size]; exact h2)).trans (set6_ne w b d k (by omega)))
theorem Fresh.leaf (B : Nat) (w : World) (k n o : Int) (ho : o ≤ 9223372036854775807) : Fresh B w ⟨k, n, o, 0, { data := #[] }, none, 0, 0⟩ (.mk k n o 0 { data := #[] } []) := fun w' _ => Ytjhfomfaddfklaa.leaf w' k n o ho
mutual
/-- No part is the pattern without a name. -/
def Pt.nz : Pt → Bool
  | .mk k _ _ _ _ kids => decide (k ≠ 0) && Pt.nzL kids
def Pt.nzL : List Pt → Bool
  | [] => true
  | x :: r => Pt.nz x && Pt.nzL r
end
mutual
/-- How many parts a pattern has. -/
def cntP : Pt → Nat
  | .mk _ _ _ _ _ kids => 1 + cntL kids
def cntL : List Pt → Nat
  | [] => 0
  | x :: r => cntP x + cntL r
end
inductive FitPost (N : Nat) (t : Sr) (v : Bool) (w : World) (e : Ending) (w' : World) : Prop
  | mk (c : PC) (P : Pt) (he : e = .returned c.val) (hP : Fresh w.heap.size w' c P) (hg : P.good = true) (hz : P.nz = true) (hW : WT t P) (hV : v = true → VT t P) (hb : Below w.heap.size w w') (hn : cntP P ≤ N) : FitPost N t v w e w'
theorem FitPost.le {N M : Nat} {t : Sr} {v : Bool} {w : World} {e : Ending} {w' : World} (h : FitPost N t v w e w') (hl : N ≤ M) : FitPost M t v w e w' := by
  cases h with
  | mk c P he hP hg hz hW hV hb hn => exact FitPost.mk c P he hP hg hz hW hV hb (Nat.le_trans hn hl)
def FitAt (wb : World) (P : Pt) (t : Sr) (v : Bool) (N : Nat) : Prop := ∀ (c : PC), PtIn wb c P → ∀ (w : World), Below wb.heap.size wb w → Calls Try.prog 9 #[c.val, .int .i64 t.nr, .bool v] w fun e w' => FitPost N t v w e w'
theorem FitAt.le {wb : World} {P : Pt} {t : Sr} {v : Bool} {N M : Nat} (h : FitAt wb P t v N) (hl : N ≤ M) : FitAt wb P t v M := fun c hc w hw => (h c hc w hw).mono (fun _ _ h => h.le hl)
/-- Two patterns side by side. -/
def PC.obj2 (c d : PC) : Obj := .cells #[.int .i64 c.k, .int .i64 c.n, .int .i64 c.o, .int .i64 c.a, .string c.s, .slice c.p c.len c.cap, .int .i64 d.k, .int .i64 d.n, .int .i64 d.o, .int .i64 d.a, .string d.s, .slice d.p d.len d.cap] 26
def PC.two (b : Nat) : PC := ⟨5, 0, 0, 0, { data := #[] }, some ⟨b, 0, none⟩, 2, 2⟩
theorem two_in {N : Nat} {w : World} {c d : PC} {A B : Pt} (hA : Fresh N w c A) (hB : Fresh N w d B) (hN : N ≤ w.heap.size) : Fresh N (w.alloc (PC.obj2 c d)) (PC.two w.heap.size) (.mk 5 0 0 0 { data := #[] } [A, B]) := by
  intro w' hw'
  have hb : Below w.heap.size w (w.alloc (PC.obj2 c d)) := (Below.refl _ _).alloc (Nat.le_refl _) _
  have hg : w'.heap[w.heap.size]? = some (PC.obj2 c d) := (hw' _ hN (by simp)).trans (MapKept.heap_alloc w _).1
  have hA' := hA.keep hb w' hw'
  have hB' := hB.keep hb w' hw'
  refine PtIn.mk (PC.two w.heap.size) [A, B] w.heap.size 0 (fun i => if i = 0 then c else d) rfl (by simp [maxLen]) (Nat.le_refl _) (fun h => by cases h) (by simp [PC.two]) (fun _ => rfl) (fun i hi => ?_) (fun i hi => ?_)
  · have hi2 : i = 0 ∨ i = 1 := by simp at hi; omega
    unfold PC.obj2 at hg
    rcases hi2 with rfl | rfl <;> refine ⟨?_, ?_, ?_, ?_, ?_, ?_⟩ <;> simp [World.cell?, hg]
  · have hi2 : i = 0 ∨ i = 1 := by simp at hi; omega
    rcases hi2 with rfl | rfl
    · exact hA'
    · exact hB'
theorem two_good {A B : Pt} (hA : A.good = true) (hB : B.good = true) : (Pt.mk 5 0 0 0 { data := #[] } [A, B]).good = true := by
  simp [Pt.good, Pt.goodL, okP, hA, hB]
theorem two_wt {t t2 : Sr} (ht : t = .p12 ∧ t2 = .opt ∨ t = .p13 ∧ t2 = .lst) {A B : Pt} (hA : WT .two A) (hB : WT t2 B) : WT t (.mk 5 0 0 0 { data := #[] } [A, B]) := by
  have hk : t.kind = 5 := by rcases ht with ⟨rfl, _⟩ | ⟨rfl, _⟩ <;> rfl
  have ha : t.args 0 = [.two, t2] := by rcases ht with ⟨rfl, rfl⟩ | ⟨rfl, rfl⟩ <;> rfl
  rw [← hk]
  refine WT.mk t 0 0 0 _ [A, B] (fun i hi hi' => ?_) (by rw [ha]; rfl) (fun _ => rfl) (fun h => by omega)
  have hi2 : i = 0 ∨ i = 1 := by simp at hi; omega
  rcases hi2 with rfl | rfl
  · simpa [ha] using hA
  · simpa [ha] using hB
theorem two_vt {t t2 : Sr} (ht : t = .p12 ∧ t2 = .opt ∨ t = .p13 ∧ t2 = .lst) {A B : Pt} (hA : VT .two A) (hB : VT t2 B) : VT t (.mk 5 0 0 0 { data := #[] } [A, B]) := by
  have hk : t.kind = 5 := by rcases ht with ⟨rfl, _⟩ | ⟨rfl, _⟩ <;> rfl
  have ha : t.args 0 = [.two, t2] := by rcases ht with ⟨rfl, rfl⟩ | ⟨rfl, rfl⟩ <;> rfl
  rw [← hk]
  refine VT.mk t 0 0 0 _ [A, B] (fun i hi hi' => ?_) (by rw [ha]; rfl) (fun _ => rfl) (fun h => by omega)
  have hi2 : i = 0 ∨ i = 1 := by simp at hi; omega
  rcases hi2 with rfl | rfl
  · simpa [ha] using hA
  · simpa [ha] using hB
section
set_option maxHeartbeats 8000000
set_option maxRecDepth 100000
theorem pair_any (wb : World) (P : Pt) (c : PC) (hP : PtIn wb c P) (t t2 : Sr) (ht : t = .p12 ∧ t2 = .opt ∨ t = .p13 ∧ t2 = .lst) (v : Bool) {N0 N1 : Nat} (hk0 : FitAt wb (kidP P 0) .two v N0) (hk1 : FitAt wb (kidP P 1) t2 v N1) (w : World) (hbw : Below wb.heap.size wb w) : Calls Try.prog 17 #[c.val, .int .i64 1, .int .i64 t2.nr, .bool v] w fun e w' => FitPost (1 + N0 + N1) t v w e w' := by
  have Hk0 : Hid (FitAt wb (kidP P 0) .two v N0) := hk0
  have Hk1 : Hid (FitAt wb (kidP P 1) t2 v N1) := hk1
  have HP : Hid (PtIn wb c P) := hP
  have Hbw : Hid (Below wb.heap.size wb w) := hbw
  have hw2 := below2 w c.obj (PC.obj PC.any)
  have hb1 := (pbox_new w c).below ((Below.refl _ _).alloc (Nat.le_refl _) (PC.obj PC.any))
  have hb2 := pbox_new (w.alloc c.obj) PC.any
  have e1 : (w.alloc c.obj).heap.size = w.heap.size + 1 := by simp
  rw [e1] at hb2
  have Hb1 : Hid (PBox _ _ _) := hb1
  have Hb2 : Hid (PBox _ _ _) := hb2
  have Hw2 : Hid (Below _ w _) := hw2
  clear hk0 hk1 hP hbw hw2 hb1 hb2 e1
  generalize hn : t2.nr = n2 at *
  obtain ⟨k, n, oo, a, s, p, len, cap⟩ := c
  simp only [PC.val]
  go_enter Try.func17, Try.ntmps17
  go_upto_region 1 with fail
  change Code.wp _ _ _ _ ((w.alloc (PC.obj ⟨k, n, oo, a, s, p, len, cap⟩)).alloc (PC.obj PC.any))
  generalize (w.alloc (PC.obj ⟨k, n, oo, a, s, p, len, cap⟩)).alloc (PC.obj PC.any) = w2 at *
  have hd : Below w2.heap.size w2 w2.drew := (Below.refl _ _).drew
  have Hc1 : Hid (PBox w2.drew _ _) := PBox.below Hb1.out hd
  have Hc2 : Hid (PBox w2.drew _ _) := PBox.below Hb2.out hd
  have Hw3 : Hid (Below w.heap.size w w2.drew) := Below.then Hw2.out hd (Nat.le_refl _)
  clear hd Hb1 Hb2 Hw2
  refine region_any (C := fun wx => PBox wx w.heap.size ⟨k, n, oo, a, s, p, len, cap⟩) (by kernel_rfl) ?_
  refine anyIn_read (i := 0) rfl (by kernel_rfl) (by kernel_rfl) (by kernel_rfl) (fun _ _ _ _ h => h) ?_
  apply Exists.intro
  refine ⟨Or.inl ⟨by rfl, fun wx hwx => ?_⟩, ?_⟩
  (obtain ⟨f0, f1, f2, f3, f4, f5, f6⟩ := PBox.cells' hwx; go_simp; first | done | with_reducible rfl)
  refine anyIn_read (i := 2) rfl (by kernel_rfl) (by kernel_rfl) (by kernel_rfl) (fun _ _ _ _ h => h) ?_
  apply Exists.intro
  refine ⟨Or.inl ⟨by rfl, fun wx hwx => ?_⟩, ?_⟩
  (go_simp; first | done | with_reducible rfl)
  refine anyIn_read (i := 3) rfl (by kernel_rfl) (by kernel_rfl) (by kernel_rfl) (fun _ _ _ _ h => h) ?_
  apply Exists.intro
  refine ⟨Or.inl ⟨by rfl, fun wx hwx => ?_⟩, ?_⟩
  (go_simp; first | done | with_reducible rfl)
  refine anyIn_read (i := 5) rfl (by kernel_rfl) (by kernel_rfl) (by kernel_rfl) (fun _ _ _ _ h => h) ?_
  apply Exists.intro
  refine ⟨Or.inl ⟨by rfl, fun wx hwx => ?_⟩, ?_⟩
  (obtain ⟨f0, f1, f2, f3, f4, f5, f6⟩ := PBox.cells' hwx; go_simp; first | done | with_reducible rfl)
  refine anyIn_read (i := 7) rfl (by kernel_rfl) (by kernel_rfl) (by kernel_rfl) (fun _ _ _ _ h => h) ?_
  apply Exists.intro
  refine ⟨Or.inl ⟨by rfl, fun wx hwx => ?_⟩, ?_⟩
  (go_simp; first | done | with_reducible rfl)
  refine anyIn_read (i := 8) rfl (by kernel_rfl) (by kernel_rfl) (by kernel_rfl) (fun _ _ _ _ h => h) ?_
  apply Exists.intro
  refine ⟨Or.inl ⟨by rfl, fun wx hwx => ?_⟩, ?_⟩
  (go_simp; first | done | with_reducible rfl)
  generalize w2.drew = w3 at *
  refine anyIn_one (i := 1) Hc1.out rfl (by kernel_rfl) (fun K hK => ?_)
  go_simp
  refine Calls.mono (kid_any wb _ P HP.out 0 w3 (Below.trans Hbw.out (Hw3.out.mono Hbw.out.size))) ?_
  rintro e1 w4 ⟨c4, rfl, hP4, hb4⟩
  refine hK _ _ ?_
  clear hK K
  have Hc1' : Hid (PBox w4 _ _) := PBox.below Hc1.out hb4
  have Hc2' : Hid (PBox w4 _ _) := PBox.below Hc2.out hb4
  have Hw4 : Hid (Below w.heap.size w w4) := Below.then Hw3.out hb4 (Nat.le_refl _)
  obtain ⟨N, hN⟩ : ∃ N, N = w.heap.size + 2 := ⟨_, rfl⟩
  have hN4 : N ≤ w4.heap.size := by have := PBox.lt Hc2'.out; omega
  clear Hc1 Hc2 Hw3 hb4
  refine anyIn_one (i := 4) Hc1'.out rfl (by kernel_rfl) (fun K hK => ?_)
  obtain ⟨ck, cn, co, ca, cs, cp, cl, cc⟩ := c4
  simp only [PC.val]
  go_simp
  refine Calls.mono (Hk0.out _ hP4 w4 (Below.trans Hbw.out (Hw4.out.mono Hbw.out.size))) ?_
  rintro e1 w5 ⟨c5, A, rfl, hA, hAg, hAz, hAw, hAv, hb5, hAn⟩
  refine hK _ _ ?_
  clear hK K
  have Hd1 : Hid (PBox w5 _ _) := PBox.below Hc1'.out hb5
  have Hd2 : Hid (PBox w5 _ _) := PBox.below Hc2'.out hb5
  have Hw5 : Hid (Below w.heap.size w w5) := Below.then Hw4.out hb5 (Nat.le_refl _)
  clear Hc1' Hc2' Hw4 hb5
  refine anyIn_one (i := 6) Hd1.out rfl (by kernel_rfl) (fun K hK => ?_)
  go_simp
  refine Calls.mono (kid_any wb _ P HP.out 1 w5 (Below.trans Hbw.out (Hw5.out.mono Hbw.out.size))) ?_
  rintro e1 w6 ⟨c6, rfl, hP6, hb6⟩
  refine hK _ _ ?_
  clear hK K
  have hA6 := hA.keep hb6
  have He1 : Hid (PBox w6 _ _) := PBox.below Hd1.out hb6
  have He2 : Hid (PBox w6 _ _) := PBox.below Hd2.out hb6
  have Hw6 : Hid (Below w.heap.size w w6) := Below.then Hw5.out hb6 (Nat.le_refl _)
  have hN6 : N ≤ w6.heap.size := by have := PBox.lt He2.out; omega
  clear Hd1 Hd2 Hw5 hb6 hA
  refine anyIn_one (i := 9) He1.out rfl (by kernel_rfl) (fun K hK => ?_)
  obtain ⟨dk, dn, do', da, ds, dp, dl, dc⟩ := c6
  simp only [PC.val]
  go_simp
  subst hn
  refine Calls.mono (Hk1.out _ hP6 w6 (Below.trans Hbw.out (Hw6.out.mono Hbw.out.size))) ?_
  rintro e1 w7 ⟨c7, B, rfl, hB, hBg, hBz, hBw, hBv, hb7, hBn⟩
  refine hK _ _ ?_
  clear hK K
  have hA7 := hA6.keep hb7
  have Hf1 : Hid (PBox w7 _ _) := PBox.below He1.out hb7
  have Hf2 : Hid (PBox w7 _ _) := PBox.below He2.out hb7
  have Hw7 : Hid (Below w.heap.size w w7) := Below.then Hw6.out hb7 (Nat.le_refl _)
  clear He1 He2 Hw6 hA6
  have hz7 : N ≤ w7.heap.size := Nat.le_trans hN6 hb7.size
  clear hb7
  have hb8 : Below w7.heap.size w7 (w7.alloc (PC.obj2 c5 c7)) := (Below.refl _ _).alloc (Nat.le_refl _) _
  have Hg1 : Hid (PBox _ _ _) := PBox.below Hf1.out hb8
  have Hg2 : Hid (PBox _ _ _) := PBox.below Hf2.out hb8
  have Hw8 : Hid (Below w.heap.size w _) := Below.then Hw7.out hb8 (Nat.le_refl _)
  have Hin : Hid (Fresh N _ _ _) := two_in (hA7.low hN4) (hB.low hN6) (by omega)
  refine anyIn_one (i := 10) Hf1.out rfl (by kernel_rfl) (fun K hK => ?_)
  clear hb8 Hf1 Hf2 Hw7
  obtain ⟨ek, en, eo, ea, es, ep, el, ec⟩ := c5
  obtain ⟨gk, gn, go', ga, gs, gp, gl, gc⟩ := c7
  simp only [PC.val]
  go_simp
  refine hK _ _ ?_
  clear hK K
  simp only [PC.obj2] at Hg1 Hg2 Hw8 Hin
  generalize w7.alloc (Obj.cells #[Value.int IntKind.i64 ek, Value.int IntKind.i64 en, Value.int IntKind.i64 eo, Value.int IntKind.i64 ea, Value.string es, Value.slice ep el ec, Value.int IntKind.i64 gk, Value.int IntKind.i64 gn, Value.int IntKind.i64 go', Value.int IntKind.i64 ga, Value.string gs, Value.slice gp gl gc] 26) = w8 at *
  generalize w7.heap.size = b7 at *
  clear hA7 hB
  refine anyIn_read (i := 11) rfl (by kernel_rfl) (by kernel_rfl) (by kernel_rfl) (fun _ _ _ _ h => h) ?_
  apply Exists.intro
  refine ⟨Or.inl ⟨by rfl, fun wx hwx => ?_⟩, ?_⟩
  (go_simp; first | done | with_reducible rfl)
  have hbx3 := Hg2.out
  obtain ⟨y0, y1, y2, y3, y4, y5, y6⟩ := PBox.cells' hbx3
  have z0 := PBox.frozen hbx3 0
  have z1 := PBox.frozen hbx3 1
  have z2 := PBox.frozen hbx3 2
  have z3 := PBox.frozen hbx3 3
  have z4 := PBox.frozen hbx3 4
  have z5 := PBox.frozen hbx3 5
  have hset := PBox.set6 hbx3 (PC.two b7)
  have Hbl : Hid (Below w.heap.size w (set6 w8 (w.heap.size + 1) (PC.two b7))) := Below.set6 Hw8.out (by omega) _
  have HC9 : Hid (PBox (set6 w8 (w.heap.size + 1) (PC.two b7)) w.heap.size ⟨k, n, oo, a, s, p, len, cap⟩) := (set6_ne w8 _ _ _ (by omega)).trans Hg1.out
  have HF : Hid (Fresh w.heap.size _ _ _) := Fresh.low (Fresh.set6 Hin.out (b := w.heap.size + 1) (by omega) (PC.two b7)) (by omega)
  obtain ⟨r0, r1, r2, r3, r4, r5, r6⟩ := hset.cells'
  have HR : Hid _ := (⟨r0, r1, r2, r3, r4, r5⟩ : _ ∧ _ ∧ _ ∧ _ ∧ _ ∧ _)
  clear hset r0 r1 r2 r3 r4 r5 r6 hbx3
  simp only [PC.any] at y0 y1 y2 y3 y4 y5
  refine anyIn_one (i := 12) Hg1.out rfl (by kernel_rfl) (fun K hK => ?_)
  clear Hg1 Hg2 Hin Hw8
  go_simp
  refine hK _ _ ?_
  clear hK K
  change anyIn _ _ _ _ _ _ _ _ (set6 w8 (w.heap.size + 1) (PC.two b7))
  refine anyIn_done HC9.out (by kernel_rfl) ?_
  generalize set6 w8 (w.heap.size + 1) (PC.two b7) = w9 at *
  go_wp2
  obtain ⟨r0, r1, r2, r3, r4, r5⟩ := HR.out
  refine bodyPost_ret (v := (PC.two b7).val) ?_ rfl (FitPost.mk (PC.two b7) (.mk 5 0 0 0 { data := #[] } [A, B]) rfl HF.out (two_good hAg hBg) (by simp [Pt.nz, Pt.nzL, hAz, hBz]) (two_wt ht hAw hBw) (fun hv => two_vt ht (hAv hv) (hBv hv)) Hbl.out (by simp only [cntP, cntL]; omega))
  simp [results, Try.results17, go_sem, r0, r1, r2, r3, r4, r5, PC.val, PC.two]
end
end Go.Proofs.Ytjhfomfaddfklaa
