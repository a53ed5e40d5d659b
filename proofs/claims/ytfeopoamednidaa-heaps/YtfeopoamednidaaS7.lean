/-
  The law's step: a thing, and a Kind that asks nothing.
-/
import Derived.Test.YtfeopoamednidaaS6
namespace Go.Proofs.Ytfeopoamednidaa
open Go.RowKit Go.Deep Go.IntWalk
section
set_option maxHeartbeats 8000000
set_option maxRecDepth 100000
theorem step_other (B : Nat) (w : World) (wb hp hd base : Nat) (cells : Int) (S : Nat) (first : Int) (v : Value) (ts : List Th) (vp : Value) (ps : List Cl) (vq : Value) (qs : List Cl) (next : Int) (D : Doc) (mp : Option Nat) (q : Int → Option Addr) (ks : List Int) (R : Int → Int → Prop) (h : Jt B w wb hp hd base cells S first v ts vp ps vq qs next D mp q ks R) (hS : S + 1 ≤ 3000000000000) (k oa ob oc : Int) (lv : Value) (hn : 0 < ps.length) (ha : (Lit.int .i64 oa).wf = true) (h1 : (k == 1) = false) (h6 : (k == 6) = false) (h5 : (k == 5) = false) (h4 : (k == 4) = false) (h2 : (k == 2) = false) (h3 : (k == 3) = false) (hb : (Lit.int .i64 ob).wf = true) (hz : ∃ (hj : pickN oa ps.length < ps.length) (hk : pickN oa ps.length < qs.length), (ps[pickN oa ps.length]'hj).p = true ∧ ∃ u, D (qs[pickN oa ps.length]'hk).n = some u ∧ 0 < u.fs.length) :
    Calls Try.prog 5 #[.pointer (some ⟨wb, 0, none⟩), .agg #[.int .i64 k, .int .i64 oa, .int .i64 ob, .int .i64 oc, lv]] w fun e w' => StepPost B w wb hp hd base cells S e w' := by
  have hk1 : Kp [] w (w.alloc (.cells #[.int .i64 k, .int .i64 oa, .int .i64 ob, .int .i64 oc, lv] 38)) := Kp.alloc _ _ _
  have hbx : (w.alloc (.cells #[.int .i64 k, .int .i64 oa, .int .i64 ob, .int .i64 oc, lv] 38)).heap[w.heap.size]? = some (.cells #[.int .i64 k, .int .i64 oa, .int .i64 ob, .int .i64 oc, lv] 38) := alloc_get w _
  have hJ1 := h.kp hk1
  have hB1 : Below B w (w.alloc (.cells #[.int .i64 k, .int .i64 oa, .int .i64 ob, .int .i64 oc, lv] 38)) := hk1.below (Nat.le_of_lt h.lt) (by simp)
  obtain ⟨pp, pc, gp, hvp, hpc, hgp⟩ := rv_form h.ms.p
  obtain ⟨qq, qc, gq, hvq, hqc, hgq⟩ := rv_form h.ms.q
  subst hvp
  subst hvq
  have hj := pickN_lt oa hn
  have Hz : Hid (∃ (hj : pickN oa ps.length < ps.length) (hk : pickN oa ps.length < qs.length), (ps[pickN oa ps.length]'hj).p = true ∧ ∃ u, D (qs[pickN oa ps.length]'hk).n = some u ∧ 0 < u.fs.length) := hz
  clear hz
  have Hb : Hid ((Lit.int .i64 ob).wf = true) := hb
  clear hb
  have hpl : ps.length ≤ S := h.pl
  have HX : Hid (∀ wx, Kp [] (w.alloc (.cells #[.int .i64 k, .int .i64 oa, .int .i64 ob, .int .i64 oc, lv] 38)) wx → (wx.cell? ⟨w.heap.size, 0, none⟩ = some (.int .i64 k) ∧ wx.cell? ⟨w.heap.size, 1, none⟩ = some (.int .i64 oa) ∧ wx.cell? ⟨w.heap.size, 2, none⟩ = some (.int .i64 ob) ∧ wx.cell? ⟨w.heap.size, 3, none⟩ = some (.int .i64 oc) ∧ w.heap.size < wx.heap.size) ∧ wx.cell? ⟨wb, 2, none⟩ = some (.slice pp ps.length pc) ∧ wb < wx.heap.size) := fun wx hx => by
    have e1 := (hx.block _ (Array.getElem?_eq_some_iff.1 hbx).1 (by simp)).trans hbx
    have e2 := (hJ1.kp hx).ms.box
    exact ⟨⟨by simp only [World.cell?, e1]; rfl, by simp only [World.cell?, e1]; rfl, by simp only [World.cell?, e1]; rfl, by simp only [World.cell?, e1]; rfl, (Array.getElem?_eq_some_iff.1 e1).1⟩, by simp only [World.cell?, e2]; rfl, (Array.getElem?_eq_some_iff.1 e2).1⟩
  have HP : Hid (∀ wx, Kp [] (w.alloc (.cells #[.int .i64 k, .int .i64 oa, .int .i64 ob, .int .i64 oc, lv] 38)) wx → Calls Try.prog 8 #[.int .i64 oa, .int .i64 ps.length] wx fun e w' => e = .returned (.int .i64 (pickN oa ps.length : Nat)) ∧ Kp [] (w.alloc (.cells #[.int .i64 k, .int .i64 oa, .int .i64 ob, .int .i64 oc, lv] 38)) w') := fun wx hx => Calls.mono (pick_any wx oa ps.length ha hn (by omega)) (fun e w' g => ⟨g.1, by rw [g.2]; exact hx⟩)
  have HJ1 : Hid (Jt B (w.alloc (.cells #[.int .i64 k, .int .i64 oa, .int .i64 ob, .int .i64 oc, lv] 38)) wb hp hd base cells S first v ts (.slice pp ps.length pc) ps (.slice qq qs.length qc) qs next D mp q ks R) := hJ1
  have HB1 : Hid (Below B w (w.alloc (.cells #[.int .i64 k, .int .i64 oa, .int .i64 ob, .int .i64 oc, lv] 38))) := hB1
  have hne : ((ps.length : Int) == 0) = false := by
    have : ¬ ((ps.length : Int) = 0) := by omega
    simpa using this
  obtain ⟨⟨z0, z1, z2, z3, zl⟩, c2, cl⟩ := HX.out _ (Kp.refl [] _)
  have Hgp : Hid (pp = some ⟨gp, 0, none⟩) := (hgp hn).1
  have Hgq : Hid (0 < qs.length → qq = some ⟨gq, 0, none⟩) := fun h => (hgq h).1
  have Hlen : Hid (ps.length = qs.length) := h.iso.roots.len
  have Hj : Hid (pickN oa ps.length < ps.length ∧ ps.length ≤ S ∧ ps.length ≤ pc ∧ qs.length ≤ qc) := ⟨hj, hpl, hpc, hqc⟩
  clear h hk1 hbx hJ1 hB1 hgp hgq hj hpl hpc hqc ha
  go_enter Try.func5, Try.ntmps5
  go_upto_region 11 with fail
  clear z0 z1 z2 z3 zl c2 cl
  generalize w.alloc (.cells #[.int .i64 k, .int .i64 oa, .int .i64 ob, .int .i64 oc, lv] 38) = w1 at *
  generalize w.heap.size = b0 at *
  generalize pickN oa ps.length = j at *
  refine region_in (C := fun wx => Kp [] w1 wx) (by kernel_rfl) (by kernel_rfl) ((Kp.refl _ _).drew) ?_
  repeat
    refine wpQuiet_step (fun K hK => ?_)
    first
      | (go_simp; refine hK _ ?_; clear hK K)
      | (rw [if_pos (by rfl)]; apply Exists.intro; refine ⟨fun wx hwx => ?_, hK _ ?_⟩; (obtain ⟨⟨e0, e1, e2, e3, e4⟩, e5, e6⟩ := HX.out wx hwx; unfold Oper.quietAt; go_simp; first | done | rfl | exact ⟨rfl, rfl⟩ | exact HP.out _ hwx); clear hK K; go_simp)
  refine wpQuiet_nil ?_
  intro w2 hw2
  obtain ⟨⟨z0, z1, z2, z3, zl⟩, c2, cl⟩ := HX.out w2 hw2
  have HJ : Hid (Jt B w2 wb hp hd base cells S first v ts (.slice pp ps.length pc) ps (.slice qq qs.length qc) qs next D mp q ks R) := HJ1.out.kp hw2
  have HB : Hid (Below B w w2) := HB1.out.trans (hw2.below (Nat.le_of_lt HJ1.out.lt) (by simp))
  clear HX HP HJ1 HB1 hne hw2 w1
  go_upto_region 17 with fail
  have HX : Hid (∀ wx, Kp [] w2 wx → wx.cell? ⟨b0, 0, none⟩ = some (.int .i64 k) ∧ wx.cell? ⟨b0, 2, none⟩ = some (.int .i64 ob) ∧ wx.cell? ⟨b0, 3, none⟩ = some (.int .i64 oc) ∧ b0 < wx.heap.size) := fun wx hx => ⟨hx.cell z0 (by simp), hx.cell z2 (by simp), hx.cell z3 (by simp), Nat.lt_of_lt_of_le zl hx.size⟩
  clear z0 zl c2 cl z1 z2 z3
  obtain rfl := Hgp.out
  obtain rfl := Hgq.out (by have := Hlen.out; omega)
  clear Hgp Hgq
  have hjp : j < ps.length := Hj.out.1
  have hjq : j < qs.length := by have := Hj.out; have := Hlen.out; omega
  have gj1 : (j : Int) < (ps.length : Int) := by omega
  have gj2 : (j : Int) < (qs.length : Int) := by omega
  have HF : Hid (∀ wx, Kp [] w2 wx → _) := fun wx hx => (HJ.out.kp hx).rootF hjp hjq
  obtain ⟨_, _, hcp, u, hu, hu0⟩ := Hz.out
  obtain ⟨hdp, hR, t, u', ht, hu', hTh⟩ := HJ.out.root hjp hjq hcp
  rw [hu] at hu'
  cases hu'
  clear Hz
  generalize ps[j]'hjp = c at *
  generalize qs[j]'hjq = d at *
  obtain ⟨cp, cn⟩ := c
  obtain ⟨dp, dn⟩ := d
  simp only at hcp hR ht hu hdp
  subst hcp
  subst hdp
  obtain ⟨mb, hmb, hlk⟩ := HJ.out.thing hu
  subst hmb
  have HL : Hid (∀ wx, Kp [] w2 wx → (Instr.lookup 29 (.map (some mb)) (.int .i64 dn) false).run Try.prog wx = .ok (.agg #[.int .i64 u.kind, .int .i64 u.tag, .slice (q dn) u.fs.length u.fs.length]) wx) := hlk
  have HT : Hid (R cn dn ∧ docOf first ts cn = some t ∧ D dn = some u ∧ ThIso R t u ∧ 0 < u.fs.length) := ⟨hR, ht, hu, hTh, hu0⟩
  have hfl := field52_2
  have hm0 : ((u.fs.length : Int) == 0) = false := by
    have : ¬ ((u.fs.length : Int) = 0) := by omega
    simpa using this
  have hul : u.fs.length ≤ 1000000 := by
    have hcs := HJ.out.cs
    have hk := (HJ.out.dc.keys dn).1 (by rw [hu]; rfl)
    have := fieldsT_erase D ks hk
    rw [cellsT_eq] at hcs
    unfold fsOf at this
    rw [hu] at this
    simp only [Option.getD_some] at this
    omega
  have HP2 : Hid (∀ wx, Calls Try.prog 8 #[.int .i64 ob, .int .i64 u.fs.length] wx fun e w' => e = .returned (.int .i64 (pickN ob u.fs.length : Nat)) ∧ w' = wx) := fun wx => pick_any wx ob u.fs.length Hb.out hu0 (by omega)
  have Hi : Hid (pickN ob u.fs.length < u.fs.length ∧ u.fs.length ≤ 1000000) := ⟨pickN_lt ob hu0, hul⟩
  clear hlk hR ht hu hTh hu0 hul Hb
  obtain ⟨⟨e0, e1, e2, e3, e4⟩, ⟨e5, e6, e7⟩, ⟨e8, e9⟩, e10, e11⟩ := HF.out w2 (Kp.refl _ _)
  have e12 := fun n => HL.out (w2.drewN n) ((Kp.refl [] _).drewN n)
  go_quiet (fail)
  have hw3 : Kp [] w2 (w2.drewN nq) := (Kp.refl [] _).drewN nq
  generalize w2.drewN nq = w3 at *
  clear e0 e1 e2 e3 e4 e5 e6 e7 e8 e9 e10 e11
  clear e12
  have HK3 : Hid (Kp [] w2 w3) := hw3
  clear hw3
  go_upto_region 19 with fail
  refine region_any (C := fun wx => Kp [] w3 wx) (by kernel_rfl) ?_
  refine anyIn_read (i := 0) rfl (by kernel_rfl) (by kernel_rfl) (by kernel_rfl) (fun _ _ _ _ h => h) ?_
  apply Exists.intro
  refine ⟨Or.inl ⟨by rfl, fun wx hwx => ?_⟩, ?_⟩
  (go_simp; first | done | with_reducible rfl)
  refine anyIn_read (i := 1) rfl (by kernel_rfl) (by kernel_rfl) (by kernel_rfl) (fun _ _ _ _ h => h) ?_
  apply Exists.intro
  refine ⟨Or.inl ⟨by rfl, fun wx hwx => ?_⟩, ?_⟩
  (go_simp; first | done | with_reducible rfl)
  refine anyIn_read (i := 2) rfl (by kernel_rfl) (by kernel_rfl) (by kernel_rfl) (fun _ _ _ _ h => h) ?_
  apply Exists.intro
  refine ⟨Or.inl ⟨by rfl, fun wx hwx => ?_⟩, ?_⟩
  (go_simp; first | done | with_reducible rfl)
  refine anyIn_read (i := 3) rfl (by kernel_rfl) (by kernel_rfl) (by kernel_rfl) (fun _ _ _ _ h => h) ?_
  apply Exists.intro
  refine ⟨Or.inl ⟨by rfl, fun wx hwx => ?_⟩, ?_⟩
  (obtain ⟨⟨e0, e1, e2, e3, e4⟩, ⟨e5, e6, e7⟩, ⟨e8, e9⟩, e10, e11⟩ := HF.out wx (HK3.out.trans hwx); go_simp; first | done | with_reducible rfl)
  refine anyIn_read (i := 4) rfl (by kernel_rfl) (by kernel_rfl) (by kernel_rfl) (fun _ _ _ _ h => h) ?_
  apply Exists.intro
  refine ⟨Or.inl ⟨by rfl, fun wx hwx => ?_⟩, ?_⟩
  (go_simp; first | done | with_reducible rfl)
  refine anyIn_read (i := 5) rfl (by kernel_rfl) (by kernel_rfl) (by kernel_rfl) (fun _ _ _ _ h => h) ?_
  apply Exists.intro
  refine ⟨Or.inl ⟨by rfl, fun wx hwx => ?_⟩, ?_⟩
  (go_simp; first | done | with_reducible rfl)
  refine anyIn_read (i := 6) rfl (by kernel_rfl) (by kernel_rfl) (by kernel_rfl) (fun _ _ _ _ h => h) ?_
  apply Exists.intro
  refine ⟨Or.inl ⟨by rfl, fun wx hwx => ?_⟩, ?_⟩
  (obtain ⟨⟨e0, e1, e2, e3, e4⟩, ⟨e5, e6, e7⟩, ⟨e8, e9⟩, e10, e11⟩ := HF.out wx (HK3.out.trans hwx); go_simp; first | done | with_reducible rfl)
  refine anyIn_read (i := 7) rfl (by kernel_rfl) (by kernel_rfl) (by kernel_rfl) (fun _ _ _ _ h => h) ?_
  apply Exists.intro
  refine ⟨Or.inl ⟨by rfl, fun wx hwx => ?_⟩, ?_⟩
  (go_simp; first | done | with_reducible rfl)
  refine anyIn_read (i := 8) rfl (by kernel_rfl) (by kernel_rfl) (by kernel_rfl) (fun _ _ _ _ h => h) ?_
  apply Exists.intro
  refine ⟨Or.inl ⟨by rfl, fun wx hwx => ?_⟩, ?_⟩
  (go_simp; first | done | with_reducible rfl)
  refine anyIn_read (i := 9) rfl (by kernel_rfl) (by kernel_rfl) (by kernel_rfl) (fun _ _ _ _ h => h) ?_
  apply Exists.intro
  refine ⟨Or.inl ⟨by rfl, fun wx hwx => ?_⟩, ?_⟩
  (go_simp; first | done | with_reducible rfl)
  refine anyIn_read (i := 10) rfl (by kernel_rfl) (by kernel_rfl) (by kernel_rfl) (fun _ _ _ _ h => h) ?_
  apply Exists.intro
  refine ⟨Or.inl ⟨by rfl, fun wx hwx => ?_⟩, ?_⟩
  (obtain ⟨⟨e0, e1, e2, e3, e4⟩, ⟨e5, e6, e7⟩, ⟨e8, e9⟩, e10, e11⟩ := HF.out wx (HK3.out.trans hwx); go_simp; first | done | with_reducible rfl)
  refine anyIn_read (i := 11) rfl (by kernel_rfl) (by kernel_rfl) (by kernel_rfl) (fun _ _ _ _ h => h) ?_
  apply Exists.intro
  refine ⟨Or.inl ⟨by rfl, fun wx hwx => ?_⟩, ?_⟩
  (go_simp; first | done | with_reducible rfl)
  refine anyIn_read (i := 12) rfl (by kernel_rfl) (by kernel_rfl) (by kernel_rfl) (fun _ _ _ _ h => h) ?_
  apply Exists.intro
  refine ⟨Or.inl ⟨by rfl, fun wx hwx => ?_⟩, ?_⟩
  (obtain ⟨⟨e0, e1, e2, e3, e4⟩, ⟨e5, e6, e7⟩, ⟨e8, e9⟩, e10, e11⟩ := HF.out wx (HK3.out.trans hwx); go_simp; first | done | with_reducible rfl)
  refine anyIn_read (i := 13) rfl (by kernel_rfl) (by kernel_rfl) (by kernel_rfl) (fun _ _ _ _ h => h) ?_
  apply Exists.intro
  refine ⟨Or.inl ⟨by rfl, fun wx hwx => ?_⟩, ?_⟩
  (go_simp; first | done | with_reducible rfl)
  refine anyIn_read (i := 14) rfl (by kernel_rfl) (by kernel_rfl) (by kernel_rfl) (fun _ _ _ _ h => h) ?_
  apply Exists.intro
  refine ⟨Or.inl ⟨by rfl, fun wx hwx => ?_⟩, ?_⟩
  (obtain ⟨⟨e0, e1, e2, e3, e4⟩, ⟨e5, e6, e7⟩, ⟨e8, e9⟩, e10, e11⟩ := HF.out wx (HK3.out.trans hwx); go_simp; first | done | with_reducible rfl)
  refine anyIn_read (i := 15) rfl (by kernel_rfl) (by kernel_rfl) (by kernel_rfl) (fun _ _ _ _ h => h) ?_
  apply Exists.intro
  refine ⟨Or.inl ⟨by rfl, fun wx hwx => ?_⟩, ?_⟩
  (have e12 := HL.out wx (HK3.out.trans hwx); go_simp; first | done | with_reducible rfl)
  refine anyIn_one (i := 16) ((Kp.refl _ _).drew) rfl (by kernel_rfl) (fun K hK => ?_)
  go_simp
  refine hK _ _ ?_
  clear hK K
  refine anyIn_one (i := 17) ((Kp.alloc _ _ _).drew) rfl (by kernel_rfl) (fun K hK => ?_)
  go_simp
  refine hK _ _ ?_
  clear hK K
  have hk4 : Kp [] w3 ((w3.alloc (.cells #[.int .i64 u.kind, .int .i64 u.tag, .slice (q dn) u.fs.length u.fs.length] 52)).drew) := (Kp.alloc _ _ _).drew
  refine anyIn_done hk4 (by kernel_rfl) ?_
  have hc4 : ((w3.alloc (.cells #[.int .i64 u.kind, .int .i64 u.tag, .slice (q dn) u.fs.length u.fs.length] 52)).drew).heap[w3.heap.size]? = some (.cells #[.int .i64 u.kind, .int .i64 u.tag, .slice (q dn) u.fs.length u.fs.length] 52) := alloc_get w3 _
  generalize ((w3.alloc (.cells #[.int .i64 u.kind, .int .i64 u.tag, .slice (q dn) u.fs.length u.fs.length] 52)).drew) = w4 at hk4 hc4 ⊢
  generalize w3.heap.size = b7 at hc4 ⊢
  have HK4 : Hid (Kp [] w2 w4) := HK3.out.trans hk4
  have HC7 : Hid (w4.heap[b7]? = some (.cells #[.int .i64 u.kind, .int .i64 u.tag, .slice (q dn) u.fs.length u.fs.length] 52)) := hc4
  have c7 : w4.cell? ⟨b7, 2, none⟩ = some (.slice (q dn) u.fs.length u.fs.length) := by simp only [World.cell?, hc4]; rfl
  have l7 : b7 < w4.heap.size := (Array.getElem?_eq_some_iff.1 hc4).1
  obtain ⟨x0, x2, x3, xl⟩ := HX.out w4 HK4.out
  clear hk4 hc4 HK3 HL w3
  go_simp
  go_wp2_with fail
  refine Calls.mono (HP2.out _) ?_
  rintro e w4 ⟨rfl, rfl⟩
  clear HP2
  generalize pickN ob u.fs.length = i at *
  have Q : Hid (StepPost B w wb hp hd base cells S (.returned (.bool true)) w4) := StepPost.mk _ _ _ _ _ _ _ _ _ _ _ _ _ _ ((HJ.out.kp HK4.out).up hS) (HB.out.trans (HK4.out.below (Nat.le_of_lt HJ.out.lt) (by simp)))
  clear HX HF HJ HB HT HC7 HK4 c7 l7

  go_wp2_with fail
  exact bodyPost_ret (by simp [results, Try.results5, go_sem]) rfl Q.out
end
end Go.Proofs.Ytfeopoamednidaa
