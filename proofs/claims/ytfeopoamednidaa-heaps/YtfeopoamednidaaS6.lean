/-
  The law's step: a root that is no thing, or has no fields.
-/
import Derived.Test.YtfeopoamednidaaS5
namespace Go.Proofs.Ytfeopoamednidaa
open Go.RowKit Go.Deep Go.IntWalk
section
set_option maxHeartbeats 8000000
set_option maxRecDepth 100000
variable {B : Nat} {w : World} {wb hp hd base : Nat} {cells : Int} {S : Nat} {first : Int} {v : Value} {ts : List Th} {ps : List Cl} {qs : List Cl} {next : Int} {D : Doc} {mp : Option Nat} {q : Int → Option Addr} {ks : List Int} {R : Int → Int → Prop}
theorem Jt.rootF {gp pc gq qc : Nat} (h : Jt B w wb hp hd base cells S first v ts (.slice (some ⟨gp, 0, none⟩) ps.length pc) ps (.slice (some ⟨gq, 0, none⟩) qs.length qc) qs next D mp q ks R) {j : Nat} (hj : j < ps.length) (hk : j < qs.length) :
    (w.cell? ⟨wb, 0, none⟩ = some (.pointer (some ⟨hp, 0, none⟩)) ∧ w.cell? ⟨wb, 1, none⟩ = some (.pointer (some ⟨hd, 0, none⟩)) ∧ w.cell? ⟨wb, 2, none⟩ = some (.slice (some ⟨gp, 0, none⟩) ps.length pc) ∧ w.cell? ⟨wb, 3, none⟩ = some (.slice (some ⟨gq, 0, none⟩) qs.length qc) ∧ wb < w.heap.size) ∧ (w.cell? ⟨gp, j * 2, none⟩ = some (.bool (ps[j]'hj).p) ∧ w.cell? ⟨gp, j * 2 + 1, none⟩ = some (.int .i64 (ps[j]'hj).n) ∧ gp < w.heap.size) ∧ (w.cell? ⟨gq, j * 2 + 1, none⟩ = some (.int .i64 (qs[j]'hk).n) ∧ gq < w.heap.size) ∧ w.cell? ⟨hd, 1, none⟩ = some (.map mp) ∧ hd < w.heap.size := by
  have e1 := h.ms.box
  have e2 := h.dc.box
  have hpl := h.pl
  have hsl := h.sl
  have hln := h.iso.roots.len
  obtain ⟨p9, c9, e9, _, hr⟩ := OwnC.at h.ms.p (by unfold maxLen; omega)
  cases e9
  obtain ⟨p9, c9, e9, _, hr'⟩ := OwnC.at h.ms.q (by unfold maxLen; omega)
  cases e9
  obtain ⟨b, o, e3, k1, k2⟩ := hr.get j hj
  cases e3
  obtain ⟨b, o, e3, k3, k4⟩ := hr'.get j hk
  cases e3
  rw [Nat.zero_add] at k1 k2 k3 k4
  exact ⟨⟨by simp only [World.cell?, e1]; rfl, by simp only [World.cell?, e1]; rfl, by simp only [World.cell?, e1]; rfl, by simp only [World.cell?, e1]; rfl, (Array.getElem?_eq_some_iff.1 e1).1⟩, ⟨k1, k2, World.block_lt_of_cell? _ _ k1⟩, ⟨k4, World.block_lt_of_cell? _ _ k4⟩, by simp only [World.cell?, e2]; rfl, (Array.getElem?_eq_some_iff.1 e2).1⟩
theorem Jt.thing {vp vq : Value} (h : Jt B w wb hp hd base cells S first v ts vp ps vq qs next D mp q ks R) {y : Int} {u : Th} (hy : D y = some u) :
    ∃ mb, mp = some mb ∧ ∀ wx, Kp [] w wx → (Instr.lookup 29 (.map (some mb)) (.int .i64 y) false).run Try.prog wx = .ok (.agg #[.int .i64 u.kind, .int .i64 u.tag, .slice (q y) u.fs.length u.fs.length]) wx := by
  obtain ⟨mb, hmb, hmap⟩ : ∃ mb, mp = some mb ∧ MapAt w mb ks.length (fun b => (D b).map (thV (q b))) := by
    rcases h.dc.map with ⟨_, e⟩ | h
    · have := (h.dc.keys y).1 (by rw [hy]; rfl)
      rw [e] at this
      cases this
    · exact h
  refine ⟨mb, hmb, fun wx hx => ?_⟩
  have hwy : (Lit.int .i64 y).wf = true := i64_wf (by have := h.kl y ((h.dc.keys y).1 (by rw [hy]; rfl)); have := h.nx; have := h.sl; omega)
  have hlk := (hmap.kp hx (by simp)).look map29 zero51 hwy
  simp only [hy, Option.map_some, Option.getD_some, thV] at hlk
  exact hlk
theorem step_skip (B : Nat) (w : World) (wb hp hd base : Nat) (cells : Int) (S : Nat) (first : Int) (v : Value) (ts : List Th) (vp : Value) (ps : List Cl) (vq : Value) (qs : List Cl) (next : Int) (D : Doc) (mp : Option Nat) (q : Int → Option Addr) (ks : List Int) (R : Int → Int → Prop) (h : Jt B w wb hp hd base cells S first v ts vp ps vq qs next D mp q ks R) (hS : S + 1 ≤ 3000000000000) (k oa ob oc : Int) (lv : Value) (hn : 0 < ps.length) (ha : (Lit.int .i64 oa).wf = true) (h1 : (k == 1) = false) (h6 : (k == 6) = false) (h5 : (k == 5) = false) (h4 : (k == 4) = false) (hz : ∀ (hj : pickN oa ps.length < ps.length) (hk : pickN oa ps.length < qs.length), (ps[pickN oa ps.length]'hj).p = true → ∀ u, D (qs[pickN oa ps.length]'hk).n = some u → u.fs = []) :
    Calls Try.prog 5 #[.pointer (some ⟨wb, 0, none⟩), .agg #[.int .i64 k, .int .i64 oa, .int .i64 ob, .int .i64 oc, lv]] w fun e w' => StepPost B w wb hp hd base cells S e w' := by
  have hk1 : Kp [] w (w.alloc (.cells #[.int .i64 k, .int .i64 oa, .int .i64 ob, .int .i64 oc, lv] 38)) := Kp.alloc _ _ _
  have hbx : (w.alloc (.cells #[.int .i64 k, .int .i64 oa, .int .i64 ob, .int .i64 oc, lv] 38)).heap[w.heap.size]? = some (.cells #[.int .i64 k, .int .i64 oa, .int .i64 ob, .int .i64 oc, lv] 38) := alloc_get w _
  have hJ1 := h.kp hk1
  have hB1 : Below B w (w.alloc (.cells #[.int .i64 k, .int .i64 oa, .int .i64 ob, .int .i64 oc, lv] 38)) := hk1.below (Nat.le_of_lt h.lt) (by simp)
  obtain ⟨pp, pc, gp, hvp, hpc, hgp⟩ := rv_form h.ms.p
  obtain ⟨qq, qc, gq, hvq, hqc, hgq⟩ := rv_form h.ms.q
  subst hvp
  subst hvq
  have hj := pickN_lt oa hn
  have Hz : Hid (∀ (hj : pickN oa ps.length < ps.length) (hk : pickN oa ps.length < qs.length), (ps[pickN oa ps.length]'hj).p = true → ∀ u, D (qs[pickN oa ps.length]'hk).n = some u → u.fs = []) := hz
  clear hz
  have hpl : ps.length ≤ S := h.pl
  have HX : Hid (∀ wx, Kp [] (w.alloc (.cells #[.int .i64 k, .int .i64 oa, .int .i64 ob, .int .i64 oc, lv] 38)) wx → (wx.cell? ⟨w.heap.size, 0, none⟩ = some (.int .i64 k) ∧ wx.cell? ⟨w.heap.size, 1, none⟩ = some (.int .i64 oa) ∧ wx.cell? ⟨w.heap.size, 2, none⟩ = some (.int .i64 ob) ∧ wx.cell? ⟨w.heap.size, 3, none⟩ = some (.int .i64 oc) ∧ w.heap.size < wx.heap.size) ∧ wx.cell? ⟨wb, 2, none⟩ = some (.slice pp ps.length pc) ∧ wb < wx.heap.size) := fun wx hx => by
    have e1 := (hx.block _ (Array.getElem?_eq_some_iff.1 hbx).1 (by simp)).trans hbx
    have e2 := (hJ1.kp hx).ms.box
    exact ⟨⟨by simp only [World.cell?, e1]; rfl, by simp only [World.cell?, e1]; rfl, by simp only [World.cell?, e1]; rfl, by simp only [World.cell?, e1]; rfl, (Array.getElem?_eq_some_iff.1 e1).1⟩, by simp only [World.cell?, e2]; rfl, (Array.getElem?_eq_some_iff.1 e2).1⟩
  have HP : Hid (∀ wx, Kp [] (w.alloc (.cells #[.int .i64 k, .int .i64 oa, .int .i64 ob, .int .i64 oc, lv] 38)) wx → Calls Try.prog 8 #[.int .i64 oa, .int .i64 ps.length] wx fun e w' => e = .returned (.int .i64 (pickN oa ps.length : Nat)) ∧ Kp [] (w.alloc (.cells #[.int .i64 k, .int .i64 oa, .int .i64 ob, .int .i64 oc, lv] 38)) w') := fun wx hx => Calls.mono (pick_any wx oa ps.length ha hn (by omega)) (fun e w' g => ⟨g.1, by rw [g.2]; exact hx⟩)
  have HJ1 : Hid (Jt B (w.alloc (.cells #[.int .i64 k, .int .i64 oa, .int .i64 ob, .int .i64 oc, lv] 38)) wb hp hd base cells S first v ts (.slice pp ps.length pc) ps (.slice qq qs.length qc) qs next D mp q ks R) := hJ1
  have HB1 : Hid (Below B w (w.alloc (.cells #[.int .i64 k, .int .i64 oa, .int .i64 ob, .int .i64 oc, lv] 38))) := hB1
  have hne : ((ps.length : Int) == 0) = false := by
    have : ¬ ((ps.length : Int) = 0) := by omega
    simpa using this
  obtain ⟨⟨z0, z1, z2, z3, zl⟩, c2, cl⟩ := HX.out _ (Kp.refl [] _)
  have Hgp : Hid (pp = some ⟨gp, 0, none⟩) := (hgp hn).1
  have Hgq : Hid (0 < qs.length → qq = some ⟨gq, 0, none⟩) := fun h => (hgq h).1
  have Hlen : Hid (ps.length = qs.length) := h.iso.roots.len
  have Hj : Hid (pickN oa ps.length < ps.length ∧ ps.length ≤ S ∧ ps.length ≤ pc ∧ qs.length ≤ qc) := ⟨hj, hpl, hpc, hqc⟩
  clear h hk1 hbx hJ1 hB1 hgp hgq hj hpl hpc hqc ha
  go_enter Try.func5, Try.ntmps5
  go_upto_region 11 with fail
  clear z0 z1 z2 z3 zl c2 cl
  generalize w.alloc (.cells #[.int .i64 k, .int .i64 oa, .int .i64 ob, .int .i64 oc, lv] 38) = w1 at *
  generalize w.heap.size = b0 at *
  generalize pickN oa ps.length = j at *
  refine region_in (C := fun wx => Kp [] w1 wx) (by kernel_rfl) (by kernel_rfl) ((Kp.refl _ _).drew) ?_
  repeat
    refine wpQuiet_step (fun K hK => ?_)
    first
      | (go_simp; refine hK _ ?_; clear hK K)
      | (rw [if_pos (by rfl)]; apply Exists.intro; refine ⟨fun wx hwx => ?_, hK _ ?_⟩; (obtain ⟨⟨e0, e1, e2, e3, e4⟩, e5, e6⟩ := HX.out wx hwx; unfold Oper.quietAt; go_simp; first | done | rfl | exact ⟨rfl, rfl⟩ | exact HP.out _ hwx); clear hK K; go_simp)
  refine wpQuiet_nil ?_
  intro w2 hw2
  obtain ⟨⟨z0, z1, z2, z3, zl⟩, c2, cl⟩ := HX.out w2 hw2
  have HJ : Hid (Jt B w2 wb hp hd base cells S first v ts (.slice pp ps.length pc) ps (.slice qq qs.length qc) qs next D mp q ks R) := HJ1.out.kp hw2
  have HB : Hid (Below B w w2) := HB1.out.trans (hw2.below (Nat.le_of_lt HJ1.out.lt) (by simp))
  clear HX HP HJ1 HB1 hne hw2 w1
  go_upto_region 17 with fail
  clear z0 zl c2 cl z1 z2 z3
  obtain rfl := Hgp.out
  obtain rfl := Hgq.out (by have := Hlen.out; omega)
  clear Hgp Hgq
  have hjp : j < ps.length := Hj.out.1
  have hjq : j < qs.length := by have := Hj.out; have := Hlen.out; omega
  have gj1 : (j : Int) < (ps.length : Int) := by omega
  have gj2 : (j : Int) < (qs.length : Int) := by omega
  have HF : Hid (∀ wx, Kp [] w2 wx → _) := fun wx hx => (HJ.out.kp hx).rootF hjp hjq
  have Hst : Hid (∀ w3, Kp [] w2 w3 → StepPost B w wb hp hd base cells S (.returned (.bool true)) w3) := fun w3 h3 => StepPost.mk _ _ _ _ _ _ _ _ _ _ _ _ _ _ ((HJ.out.kp h3).up hS) (HB.out.trans (h3.below (Nat.le_of_lt HJ.out.lt) (by simp)))
  have hroot := fun hp => HJ.out.root hjp hjq hp
  have Hz1 := Hz.out hjp hjq
  clear Hz
  generalize ps[j]'hjp = c at *
  generalize qs[j]'hjq = d at *
  obtain ⟨cp, cn⟩ := c
  obtain ⟨dp, dn⟩ := d
  simp only at hroot Hz1
  by_cases hcp : cp = true
  · subst hcp
    obtain ⟨_, _, t, u, _, hu, _⟩ := hroot rfl
    have hu0 := Hz1 rfl u hu
    obtain ⟨mb, hmb, hlk⟩ := HJ.out.thing hu
    subst hmb
    rw [hu0] at hlk
    simp only [List.length_nil] at hlk
    have Hlk : Hid _ := hlk
    have hfl := field52_2
    clear hlk hu hu0 Hz1 hroot
    obtain ⟨⟨e0, e1, e2, e3, e4⟩, ⟨e5, e6, e7⟩, ⟨e8, e9⟩, e10, e11⟩ := HF.out w2 (Kp.refl _ _)
    have e12 := fun n => Hlk.out (w2.drewN n) ((Kp.refl [] _).drewN n)
    go_quiet (fail)
    have hw3 : Kp [] w2 (w2.drewN nq) := (Kp.refl [] _).drewN nq
    generalize w2.drewN nq = w3 at *
    clear e0 e1 e2 e3 e4 e5 e6 e7 e8 e9 e10 e11
    have Q : Hid _ := Hst.out w3 hw3
    clear Hst HF HJ HB Hlk hw3 e12
    go_wp2_with fail
    exact bodyPost_ret (by simp [results, Try.results5, go_sem]) rfl Q.out
  · have hcp : cp = false := by simpa using hcp
    subst hcp
    clear Hz1 hroot
    obtain ⟨⟨e0, e1, e2, e3, e4⟩, ⟨e5, e6, e7⟩, ⟨e8, e9⟩, e10, e11⟩ := HF.out w2 (Kp.refl _ _)
    go_quiet (fail)
    have hw3 : Kp [] w2 (w2.drewN nq) := (Kp.refl [] _).drewN nq
    generalize w2.drewN nq = w3 at *
    clear e0 e1 e2 e3 e4 e5 e6 e7 e8 e9 e10 e11
    have Q : Hid _ := Hst.out w3 hw3
    clear Hst HF HJ HB hw3
    go_wp2_with fail
    exact bodyPost_ret (by simp [results, Try.results5, go_sem]) rfl Q.out
end
end Go.Proofs.Ytfeopoamednidaa
