/-
  The law's step: a field is read.
-/
import Derived.Test.YtfeopoamednidaaS7
namespace Go.Proofs.Ytfeopoamednidaa
open Go.RowKit Go.Deep Go.IntWalk
section
set_option maxHeartbeats 8000000
set_option maxRecDepth 100000
theorem step_get (B : Nat) (w : World) (wb hp hd base : Nat) (cells : Int) (S : Nat) (first : Int) (v : Value) (ts : List Th) (vp : Value) (ps : List Cl) (vq : Value) (qs : List Cl) (next : Int) (D : Doc) (mp : Option Nat) (q : Int → Option Addr) (ks : List Int) (R : Int → Int → Prop) (h : Jt B w wb hp hd base cells S first v ts vp ps vq qs next D mp q ks R) (hS : S + 1 ≤ 3000000000000) (oa ob oc : Int) (lv : Value) (hn : 0 < ps.length) (ha : (Lit.int .i64 oa).wf = true) (hb : (Lit.int .i64 ob).wf = true) (hz : ∃ (hj : pickN oa ps.length < ps.length) (hk : pickN oa ps.length < qs.length), (ps[pickN oa ps.length]'hj).p = true ∧ ∃ u, D (qs[pickN oa ps.length]'hk).n = some u ∧ 0 < u.fs.length) :
    Calls Try.prog 5 #[.pointer (some ⟨wb, 0, none⟩), .agg #[.int .i64 3, .int .i64 oa, .int .i64 ob, .int .i64 oc, lv]] w fun e w' => StepPost B w wb hp hd base cells S e w' := by
  have hk1 : Kp [] w (w.alloc (.cells #[.int .i64 3, .int .i64 oa, .int .i64 ob, .int .i64 oc, lv] 38)) := Kp.alloc _ _ _
  have hbx : (w.alloc (.cells #[.int .i64 3, .int .i64 oa, .int .i64 ob, .int .i64 oc, lv] 38)).heap[w.heap.size]? = some (.cells #[.int .i64 3, .int .i64 oa, .int .i64 ob, .int .i64 oc, lv] 38) := alloc_get w _
  have hJ1 := h.kp hk1
  have hB1 : Below B w (w.alloc (.cells #[.int .i64 3, .int .i64 oa, .int .i64 ob, .int .i64 oc, lv] 38)) := hk1.below (Nat.le_of_lt h.lt) (by simp)
  obtain ⟨pp, pc, gp, hvp, hpc, hgp⟩ := rv_form h.ms.p
  obtain ⟨qq, qc, gq, hvq, hqc, hgq⟩ := rv_form h.ms.q
  subst hvp
  subst hvq
  have hj := pickN_lt oa hn
  have Hz : Hid (∃ (hj : pickN oa ps.length < ps.length) (hk : pickN oa ps.length < qs.length), (ps[pickN oa ps.length]'hj).p = true ∧ ∃ u, D (qs[pickN oa ps.length]'hk).n = some u ∧ 0 < u.fs.length) := hz
  clear hz
  have Hb : Hid ((Lit.int .i64 ob).wf = true) := hb
  clear hb
  have hpl : ps.length ≤ S := h.pl
  have HX : Hid (∀ wx, Kp [] (w.alloc (.cells #[.int .i64 3, .int .i64 oa, .int .i64 ob, .int .i64 oc, lv] 38)) wx → (wx.cell? ⟨w.heap.size, 0, none⟩ = some (.int .i64 3) ∧ wx.cell? ⟨w.heap.size, 1, none⟩ = some (.int .i64 oa) ∧ wx.cell? ⟨w.heap.size, 2, none⟩ = some (.int .i64 ob) ∧ wx.cell? ⟨w.heap.size, 3, none⟩ = some (.int .i64 oc) ∧ w.heap.size < wx.heap.size) ∧ wx.cell? ⟨wb, 2, none⟩ = some (.slice pp ps.length pc) ∧ wb < wx.heap.size) := fun wx hx => by
    have e1 := (hx.block _ (Array.getElem?_eq_some_iff.1 hbx).1 (by simp)).trans hbx
    have e2 := (hJ1.kp hx).ms.box
    exact ⟨⟨by simp only [World.cell?, e1]; rfl, by simp only [World.cell?, e1]; rfl, by simp only [World.cell?, e1]; rfl, by simp only [World.cell?, e1]; rfl, (Array.getElem?_eq_some_iff.1 e1).1⟩, by simp only [World.cell?, e2]; rfl, (Array.getElem?_eq_some_iff.1 e2).1⟩
  have HP : Hid (∀ wx, Kp [] (w.alloc (.cells #[.int .i64 3, .int .i64 oa, .int .i64 ob, .int .i64 oc, lv] 38)) wx → Calls Try.prog 8 #[.int .i64 oa, .int .i64 ps.length] wx fun e w' => e = .returned (.int .i64 (pickN oa ps.length : Nat)) ∧ Kp [] (w.alloc (.cells #[.int .i64 3, .int .i64 oa, .int .i64 ob, .int .i64 oc, lv] 38)) w') := fun wx hx => Calls.mono (pick_any wx oa ps.length ha hn (by omega)) (fun e w' g => ⟨g.1, by rw [g.2]; exact hx⟩)
  have HJ1 : Hid (Jt B (w.alloc (.cells #[.int .i64 3, .int .i64 oa, .int .i64 ob, .int .i64 oc, lv] 38)) wb hp hd base cells S first v ts (.slice pp ps.length pc) ps (.slice qq qs.length qc) qs next D mp q ks R) := hJ1
  have HB1 : Hid (Below B w (w.alloc (.cells #[.int .i64 3, .int .i64 oa, .int .i64 ob, .int .i64 oc, lv] 38))) := hB1
  have hne : ((ps.length : Int) == 0) = false := by
    have : ¬ ((ps.length : Int) = 0) := by omega
    simpa using this
  obtain ⟨⟨z0, z1, z2, z3, zl⟩, c2, cl⟩ := HX.out _ (Kp.refl [] _)
  have Hgp : Hid (pp = some ⟨gp, 0, none⟩) := (hgp hn).1
  have Hgq : Hid (0 < qs.length → qq = some ⟨gq, 0, none⟩) := fun h => (hgq h).1
  have Hlen : Hid (ps.length = qs.length) := h.iso.roots.len
  have Hj : Hid (pickN oa ps.length < ps.length ∧ ps.length ≤ S ∧ ps.length ≤ pc ∧ qs.length ≤ qc) := ⟨hj, hpl, hpc, hqc⟩
  clear h hk1 hbx hJ1 hB1 hgp hgq hj hpl hpc hqc ha
  go_enter Try.func5, Try.ntmps5
  go_upto_region 11 with fail
  clear z0 z1 z2 z3 zl c2 cl
  generalize w.alloc (.cells #[.int .i64 3, .int .i64 oa, .int .i64 ob, .int .i64 oc, lv] 38) = w1 at *
  generalize w.heap.size = b0 at *
  generalize pickN oa ps.length = j at *
  refine region_in (C := fun wx => Kp [] w1 wx) (by kernel_rfl) (by kernel_rfl) ((Kp.refl _ _).drew) ?_
  repeat
    refine wpQuiet_step (fun K hK => ?_)
    first
      | (go_simp; refine hK _ ?_; clear hK K)
      | (rw [if_pos (by rfl)]; apply Exists.intro; refine ⟨fun wx hwx => ?_, hK _ ?_⟩; (obtain ⟨⟨e0, e1, e2, e3, e4⟩, e5, e6⟩ := HX.out wx hwx; unfold Oper.quietAt; go_simp; first | done | rfl | exact ⟨rfl, rfl⟩ | exact HP.out _ hwx); clear hK K; go_simp)
  refine wpQuiet_nil ?_
  intro w2 hw2
  obtain ⟨⟨z0, z1, z2, z3, zl⟩, c2, cl⟩ := HX.out w2 hw2
  have HJ : Hid (Jt B w2 wb hp hd base cells S first v ts (.slice pp ps.length pc) ps (.slice qq qs.length qc) qs next D mp q ks R) := HJ1.out.kp hw2
  have HB : Hid (Below B w w2) := HB1.out.trans (hw2.below (Nat.le_of_lt HJ1.out.lt) (by simp))
  clear HX HP HJ1 HB1 hne hw2 w1
  go_upto_region 17 with fail
  have HX : Hid (∀ wx, Kp [] w2 wx → wx.cell? ⟨b0, 0, none⟩ = some (.int .i64 3) ∧ wx.cell? ⟨b0, 2, none⟩ = some (.int .i64 ob) ∧ wx.cell? ⟨b0, 3, none⟩ = some (.int .i64 oc) ∧ b0 < wx.heap.size) := fun wx hx => ⟨hx.cell z0 (by simp), hx.cell z2 (by simp), hx.cell z3 (by simp), Nat.lt_of_lt_of_le zl hx.size⟩
  clear z0 zl c2 cl z1 z2 z3
  obtain rfl := Hgp.out
  obtain rfl := Hgq.out (by have := Hlen.out; omega)
  clear Hgp Hgq
  have hjp : j < ps.length := Hj.out.1
  have hjq : j < qs.length := by have := Hj.out; have := Hlen.out; omega
  have gj1 : (j : Int) < (ps.length : Int) := by omega
  have gj2 : (j : Int) < (qs.length : Int) := by omega
  have HF : Hid (∀ wx, Kp [] w2 wx → _) := fun wx hx => (HJ.out.kp hx).rootF hjp hjq
  obtain ⟨_, _, hcp, u, hu, hu0⟩ := Hz.out
  obtain ⟨hdp, hR, t, u', ht, hu', hTh⟩ := HJ.out.root hjp hjq hcp
  rw [hu] at hu'
  cases hu'
  clear Hz
  generalize ps[j]'hjp = c at *
  generalize qs[j]'hjq = d at *
  obtain ⟨cp, cn⟩ := c
  obtain ⟨dp, dn⟩ := d
  simp only at hcp hR ht hu hdp
  subst hcp
  subst hdp
  obtain ⟨mb, hmb, hlk⟩ := HJ.out.thing hu
  subst hmb
  have HL : Hid (∀ wx, Kp [] w2 wx → (Instr.lookup 29 (.map (some mb)) (.int .i64 dn) false).run Try.prog wx = .ok (.agg #[.int .i64 u.kind, .int .i64 u.tag, .slice (q dn) u.fs.length u.fs.length]) wx) := hlk
  have HT : Hid (R cn dn ∧ docOf first ts cn = some t ∧ D dn = some u ∧ ThIso R t u ∧ 0 < u.fs.length) := ⟨hR, ht, hu, hTh, hu0⟩
  have hfl := field52_2
  have hm0 : ((u.fs.length : Int) == 0) = false := by
    have : ¬ ((u.fs.length : Int) = 0) := by omega
    simpa using this
  have hul : u.fs.length ≤ 1000000 := by
    have hcs := HJ.out.cs
    have hk := (HJ.out.dc.keys dn).1 (by rw [hu]; rfl)
    have := fieldsT_erase D ks hk
    rw [cellsT_eq] at hcs
    unfold fsOf at this
    rw [hu] at this
    simp only [Option.getD_some] at this
    omega
  have HP2 : Hid (∀ wx, Calls Try.prog 8 #[.int .i64 ob, .int .i64 u.fs.length] wx fun e w' => e = .returned (.int .i64 (pickN ob u.fs.length : Nat)) ∧ w' = wx) := fun wx => pick_any wx ob u.fs.length Hb.out hu0 (by omega)
  have Hi : Hid (pickN ob u.fs.length < u.fs.length ∧ u.fs.length ≤ 1000000) := ⟨pickN_lt ob hu0, hul⟩
  clear hlk hR ht hu hTh hu0 hul Hb
  obtain ⟨⟨e0, e1, e2, e3, e4⟩, ⟨e5, e6, e7⟩, ⟨e8, e9⟩, e10, e11⟩ := HF.out w2 (Kp.refl _ _)
  have e12 := fun n => HL.out (w2.drewN n) ((Kp.refl [] _).drewN n)
  go_quiet (fail)
  have hw3 : Kp [] w2 (w2.drewN nq) := (Kp.refl [] _).drewN nq
  generalize w2.drewN nq = w3 at *
  clear e0 e1 e2 e3 e4 e5 e6 e7 e8 e9 e10 e11
  clear e12
  have HK3 : Hid (Kp [] w2 w3) := hw3
  clear hw3
  go_upto_region 19 with fail
  refine region_any (C := fun wx => Kp [] w3 wx) (by kernel_rfl) ?_
  refine anyIn_read (i := 0) rfl (by kernel_rfl) (by kernel_rfl) (by kernel_rfl) (fun _ _ _ _ h => h) ?_
  apply Exists.intro
  refine ⟨Or.inl ⟨by rfl, fun wx hwx => ?_⟩, ?_⟩
  (go_simp; first | done | with_reducible rfl)
  refine anyIn_read (i := 1) rfl (by kernel_rfl) (by kernel_rfl) (by kernel_rfl) (fun _ _ _ _ h => h) ?_
  apply Exists.intro
  refine ⟨Or.inl ⟨by rfl, fun wx hwx => ?_⟩, ?_⟩
  (go_simp; first | done | with_reducible rfl)
  refine anyIn_read (i := 2) rfl (by kernel_rfl) (by kernel_rfl) (by kernel_rfl) (fun _ _ _ _ h => h) ?_
  apply Exists.intro
  refine ⟨Or.inl ⟨by rfl, fun wx hwx => ?_⟩, ?_⟩
  (go_simp; first | done | with_reducible rfl)
  refine anyIn_read (i := 3) rfl (by kernel_rfl) (by kernel_rfl) (by kernel_rfl) (fun _ _ _ _ h => h) ?_
  apply Exists.intro
  refine ⟨Or.inl ⟨by rfl, fun wx hwx => ?_⟩, ?_⟩
  (obtain ⟨⟨e0, e1, e2, e3, e4⟩, ⟨e5, e6, e7⟩, ⟨e8, e9⟩, e10, e11⟩ := HF.out wx (HK3.out.trans hwx); go_simp; first | done | with_reducible rfl)
  refine anyIn_read (i := 4) rfl (by kernel_rfl) (by kernel_rfl) (by kernel_rfl) (fun _ _ _ _ h => h) ?_
  apply Exists.intro
  refine ⟨Or.inl ⟨by rfl, fun wx hwx => ?_⟩, ?_⟩
  (go_simp; first | done | with_reducible rfl)
  refine anyIn_read (i := 5) rfl (by kernel_rfl) (by kernel_rfl) (by kernel_rfl) (fun _ _ _ _ h => h) ?_
  apply Exists.intro
  refine ⟨Or.inl ⟨by rfl, fun wx hwx => ?_⟩, ?_⟩
  (go_simp; first | done | with_reducible rfl)
  refine anyIn_read (i := 6) rfl (by kernel_rfl) (by kernel_rfl) (by kernel_rfl) (fun _ _ _ _ h => h) ?_
  apply Exists.intro
  refine ⟨Or.inl ⟨by rfl, fun wx hwx => ?_⟩, ?_⟩
  (obtain ⟨⟨e0, e1, e2, e3, e4⟩, ⟨e5, e6, e7⟩, ⟨e8, e9⟩, e10, e11⟩ := HF.out wx (HK3.out.trans hwx); go_simp; first | done | with_reducible rfl)
  refine anyIn_read (i := 7) rfl (by kernel_rfl) (by kernel_rfl) (by kernel_rfl) (fun _ _ _ _ h => h) ?_
  apply Exists.intro
  refine ⟨Or.inl ⟨by rfl, fun wx hwx => ?_⟩, ?_⟩
  (go_simp; first | done | with_reducible rfl)
  refine anyIn_read (i := 8) rfl (by kernel_rfl) (by kernel_rfl) (by kernel_rfl) (fun _ _ _ _ h => h) ?_
  apply Exists.intro
  refine ⟨Or.inl ⟨by rfl, fun wx hwx => ?_⟩, ?_⟩
  (go_simp; first | done | with_reducible rfl)
  refine anyIn_read (i := 9) rfl (by kernel_rfl) (by kernel_rfl) (by kernel_rfl) (fun _ _ _ _ h => h) ?_
  apply Exists.intro
  refine ⟨Or.inl ⟨by rfl, fun wx hwx => ?_⟩, ?_⟩
  (go_simp; first | done | with_reducible rfl)
  refine anyIn_read (i := 10) rfl (by kernel_rfl) (by kernel_rfl) (by kernel_rfl) (fun _ _ _ _ h => h) ?_
  apply Exists.intro
  refine ⟨Or.inl ⟨by rfl, fun wx hwx => ?_⟩, ?_⟩
  (obtain ⟨⟨e0, e1, e2, e3, e4⟩, ⟨e5, e6, e7⟩, ⟨e8, e9⟩, e10, e11⟩ := HF.out wx (HK3.out.trans hwx); go_simp; first | done | with_reducible rfl)
  refine anyIn_read (i := 11) rfl (by kernel_rfl) (by kernel_rfl) (by kernel_rfl) (fun _ _ _ _ h => h) ?_
  apply Exists.intro
  refine ⟨Or.inl ⟨by rfl, fun wx hwx => ?_⟩, ?_⟩
  (go_simp; first | done | with_reducible rfl)
  refine anyIn_read (i := 12) rfl (by kernel_rfl) (by kernel_rfl) (by kernel_rfl) (fun _ _ _ _ h => h) ?_
  apply Exists.intro
  refine ⟨Or.inl ⟨by rfl, fun wx hwx => ?_⟩, ?_⟩
  (obtain ⟨⟨e0, e1, e2, e3, e4⟩, ⟨e5, e6, e7⟩, ⟨e8, e9⟩, e10, e11⟩ := HF.out wx (HK3.out.trans hwx); go_simp; first | done | with_reducible rfl)
  refine anyIn_read (i := 13) rfl (by kernel_rfl) (by kernel_rfl) (by kernel_rfl) (fun _ _ _ _ h => h) ?_
  apply Exists.intro
  refine ⟨Or.inl ⟨by rfl, fun wx hwx => ?_⟩, ?_⟩
  (go_simp; first | done | with_reducible rfl)
  refine anyIn_read (i := 14) rfl (by kernel_rfl) (by kernel_rfl) (by kernel_rfl) (fun _ _ _ _ h => h) ?_
  apply Exists.intro
  refine ⟨Or.inl ⟨by rfl, fun wx hwx => ?_⟩, ?_⟩
  (obtain ⟨⟨e0, e1, e2, e3, e4⟩, ⟨e5, e6, e7⟩, ⟨e8, e9⟩, e10, e11⟩ := HF.out wx (HK3.out.trans hwx); go_simp; first | done | with_reducible rfl)
  refine anyIn_read (i := 15) rfl (by kernel_rfl) (by kernel_rfl) (by kernel_rfl) (fun _ _ _ _ h => h) ?_
  apply Exists.intro
  refine ⟨Or.inl ⟨by rfl, fun wx hwx => ?_⟩, ?_⟩
  (have e12 := HL.out wx (HK3.out.trans hwx); go_simp; first | done | with_reducible rfl)
  refine anyIn_one (i := 16) ((Kp.refl _ _).drew) rfl (by kernel_rfl) (fun K hK => ?_)
  go_simp
  refine hK _ _ ?_
  clear hK K
  refine anyIn_one (i := 17) ((Kp.alloc _ _ _).drew) rfl (by kernel_rfl) (fun K hK => ?_)
  go_simp
  refine hK _ _ ?_
  clear hK K
  have hk4 : Kp [] w3 ((w3.alloc (.cells #[.int .i64 u.kind, .int .i64 u.tag, .slice (q dn) u.fs.length u.fs.length] 52)).drew) := (Kp.alloc _ _ _).drew
  refine anyIn_done hk4 (by kernel_rfl) ?_
  have hc4 : ((w3.alloc (.cells #[.int .i64 u.kind, .int .i64 u.tag, .slice (q dn) u.fs.length u.fs.length] 52)).drew).heap[w3.heap.size]? = some (.cells #[.int .i64 u.kind, .int .i64 u.tag, .slice (q dn) u.fs.length u.fs.length] 52) := alloc_get w3 _
  generalize ((w3.alloc (.cells #[.int .i64 u.kind, .int .i64 u.tag, .slice (q dn) u.fs.length u.fs.length] 52)).drew) = w4 at hk4 hc4 ⊢
  generalize w3.heap.size = b7 at hc4 ⊢
  have HK4 : Hid (Kp [] w2 w4) := HK3.out.trans hk4
  have HC7 : Hid (w4.heap[b7]? = some (.cells #[.int .i64 u.kind, .int .i64 u.tag, .slice (q dn) u.fs.length u.fs.length] 52)) := hc4
  have c7 : w4.cell? ⟨b7, 2, none⟩ = some (.slice (q dn) u.fs.length u.fs.length) := by simp only [World.cell?, hc4]; rfl
  have l7 : b7 < w4.heap.size := (Array.getElem?_eq_some_iff.1 hc4).1
  obtain ⟨x0, x2, x3, xl⟩ := HX.out w4 HK4.out
  clear hk4 hc4 HK3 HL w3
  go_simp
  go_wp2_with fail
  refine Calls.mono (HP2.out _) ?_
  rintro e w4 ⟨rfl, rfl⟩
  clear HP2
  generalize pickN ob u.fs.length = i at *
  go_upto_region 27 with fail
  have HJ4 : Hid (Jt B w4 wb hp hd base cells S first v ts (.slice (some ⟨gp, 0, none⟩) ps.length pc) ps (.slice (some ⟨gq, 0, none⟩) qs.length qc) qs next D (some mb) q ks R) := HJ.out.kp HK4.out
  obtain ⟨g, hqg⟩ : ∃ g, q dn = some ⟨g, 0, none⟩ := by
    have hrow := HJ4.out.dc.rows dn u HT.out.2.2.1
    cases hqq : q dn with
    | none => have := (hrow.2.1 hqq).1; have := HT.out.2.2.2.2; omega
    | some a => exact ⟨a.block, by rw [← (HJ4.out.qr dn u a HT.out.2.2.1 hqq).1]⟩
  have hit : i < t.fs.length := by rw [HT.out.2.2.2.1.fs.len]; exact Hi.out.1
  have hiu : i < u.fs.length := Hi.out.1
  have HW : Hid (RowC w4 (some ⟨g, 0, none⟩) u.fs) := by
    have hrow := (HJ4.out.dc.rows dn u HT.out.2.2.1).1
    rw [hqg] at hrow
    exact hrow
  have HI : Hid (Iso (docOf first ts) D R (ps ++ [t.fs[i]'hit]) (qs ++ [u.fs[i]'hiu]) ∧ wfC (t.fs[i]'hit) ∧ wfC (u.fs[i]'hiu)) := ⟨HJ4.out.isoGet HT.out.2.2.2.1 hit hiu, (HJ4.out.oth t (doc_mem HT.out.2.1)).2.2.2.2 _ (List.getElem_mem hit), (HJ4.out.dc.rows dn u HT.out.2.2.1).2.2 _ (List.getElem_mem hiu)⟩
  have Hget : Hid (∀ wx, Kp [] w4 wx → Calls Try.prog 14 #[.pointer (some ⟨hp, 0, none⟩), .int .i64 cn, .int .i64 i] wx fun e w' => e = .returned (.agg #[.bool (t.fs[i]'hit).p, .int .i64 (t.fs[i]'hit).n]) ∧ Kp [] w4 w') := fun wx hx =>
    Calls.mono ((pget_of HJ4.out.hh HJ4.out.oth).get wx (hx.below (Nat.le_refl _) (by simp)) cn t HT.out.2.1 i hit) (fun e w' g => ⟨g.1, hx.trans (Kp.of_below g.2)⟩)
  have Hget2 : Hid (∀ wx, Kp [] w4 wx → Calls Try.prog 14 #[.pointer (some ⟨hp, 0, none⟩), .int .i64 cn, .int .i64 i] wx fun e w' => e = .returned (.agg #[.bool (t.fs[i]'hit).p, .int .i64 (t.fs[i]'hit).n]) ∧ Kp [] wx w') := fun wx hx =>
    Calls.mono ((pget_of HJ4.out.hh HJ4.out.oth).get wx (hx.below (Nat.le_refl _) (by simp)) cn t HT.out.2.1 i hit) (fun e w' g => ⟨g.1, Kp.of_below g.2⟩)
  have HW2 : Hid (w4.cell? ⟨g, i * 2, none⟩ = some (.bool (u.fs[i]'hiu).p) ∧ w4.cell? ⟨g, i * 2 + 1, none⟩ = some (.int .i64 (u.fs[i]'hiu).n)) := by
    obtain ⟨b, o, e3, k1, k2⟩ := HW.out.get i hiu
    cases e3
    rw [Nat.zero_add] at k1 k2
    exact ⟨k1, k2⟩
  have gi : (i : Int) < (u.fs.length : Int) := by omega
  generalize t.fs[i]'hit = a at *
  generalize u.fs[i]'hiu = b at *
  obtain ⟨ap, an⟩ := a
  obtain ⟨bp, bn⟩ := b
  simp only at HW2 Hget Hget2
  rw [hqg] at c7
  clear hqg HW x0 x2 x3 xl HX
  go_cut [11] from 202 to 216 (fun p wx => ∃ b8, p = .pointer (some ⟨b8, 0, none⟩) ∧ Hid (wx.heap[b8]? = some (.cells #[.bool ap, .int .i64 an] 50) ∧ Kp [] w4 wx))
  case first =>
    refine region_any (C := fun wx => Kp [] w4 wx) (by kernel_rfl) ?_
    refine anyIn_read (i := 0) rfl (by kernel_rfl) (by kernel_rfl) (by kernel_rfl) (fun _ _ _ _ h => h) ?_
    apply Exists.intro
    refine ⟨Or.inl ⟨by rfl, fun wx hwx => ?_⟩, ?_⟩
    (go_simp; first | done | with_reducible rfl)
    refine anyIn_read (i := 1) rfl (by kernel_rfl) (by kernel_rfl) (by kernel_rfl) (fun _ _ _ _ h => h) ?_
    apply Exists.intro
    refine ⟨Or.inl ⟨by rfl, fun wx hwx => ?_⟩, ?_⟩
    (go_simp; first | done | with_reducible rfl)
    refine anyIn_read (i := 2) rfl (by kernel_rfl) (by kernel_rfl) (by kernel_rfl) (fun _ _ _ _ h => h) ?_
    apply Exists.intro
    refine ⟨Or.inl ⟨by rfl, fun wx hwx => ?_⟩, ?_⟩
    (go_simp; first | done | with_reducible rfl)
    refine anyIn_read (i := 3) rfl (by kernel_rfl) (by kernel_rfl) (by kernel_rfl) (fun _ _ _ _ h => h) ?_
    apply Exists.intro
    refine ⟨Or.inl ⟨by rfl, fun wx hwx => ?_⟩, ?_⟩
    (obtain ⟨⟨e0, e1, e2, e3, e4⟩, ⟨e5, e6, e7⟩, ⟨e8, e9⟩, e10, e11⟩ := HF.out wx (HK4.out.trans hwx); go_simp; first | done | with_reducible rfl)
    refine anyIn_read (i := 4) rfl (by kernel_rfl) (by kernel_rfl) (by kernel_rfl) (fun _ _ _ _ h => h) ?_
    apply Exists.intro
    refine ⟨Or.inl ⟨by rfl, fun wx hwx => ?_⟩, ?_⟩
    (go_simp; first | done | with_reducible rfl)
    refine anyIn_read (i := 5) rfl (by kernel_rfl) (by kernel_rfl) (by kernel_rfl) (fun _ _ _ _ h => h) ?_
    apply Exists.intro
    refine ⟨Or.inl ⟨by rfl, fun wx hwx => ?_⟩, ?_⟩
    (go_simp; first | done | with_reducible rfl)
    refine anyIn_read (i := 6) rfl (by kernel_rfl) (by kernel_rfl) (by kernel_rfl) (fun _ _ _ _ h => h) ?_
    apply Exists.intro
    refine ⟨Or.inl ⟨by rfl, fun wx hwx => ?_⟩, ?_⟩
    (go_simp; first | done | with_reducible rfl)
    refine anyIn_read (i := 7) rfl (by kernel_rfl) (by kernel_rfl) (by kernel_rfl) (fun _ _ _ _ h => h) ?_
    apply Exists.intro
    refine ⟨Or.inl ⟨by rfl, fun wx hwx => ?_⟩, ?_⟩
    (obtain ⟨⟨e0, e1, e2, e3, e4⟩, ⟨e5, e6, e7⟩, ⟨e8, e9⟩, e10, e11⟩ := HF.out wx (HK4.out.trans hwx); go_simp; first | done | with_reducible rfl)
    refine anyIn_read (i := 8) rfl (by kernel_rfl) (by kernel_rfl) (by kernel_rfl) (fun _ _ _ _ h => h) ?_
    apply Exists.intro
    refine ⟨Or.inl ⟨by rfl, fun wx hwx => ?_⟩, ?_⟩
    (go_simp; first | done | with_reducible rfl)
    refine anyIn_read (i := 9) rfl (by kernel_rfl) (by kernel_rfl) (by kernel_rfl) (fun _ _ _ _ h => h) ?_
    apply Exists.intro
    refine ⟨Or.inl ⟨by rfl, fun wx hwx => ?_⟩, ?_⟩
    (obtain ⟨⟨e0, e1, e2, e3, e4⟩, ⟨e5, e6, e7⟩, ⟨e8, e9⟩, e10, e11⟩ := HF.out wx (HK4.out.trans hwx); go_simp; first | done | with_reducible rfl)
    refine anyIn_read (i := 10) rfl (by kernel_rfl) (by kernel_rfl) (by kernel_rfl) (fun _ _ _ _ h => h) ?_
    apply Exists.intro
    refine ⟨Or.inl ⟨by rfl, fun wx hwx => ?_⟩, ?_⟩
    (go_simp; first | done | with_reducible rfl)
    refine anyIn_read (i := 11) rfl (by kernel_rfl) (by kernel_rfl) (by kernel_rfl) (fun _ _ _ _ h => h) ?_
    apply Exists.intro
    refine ⟨Or.inl ⟨by rfl, fun wx hwx => ?_⟩, ?_⟩
    (obtain ⟨⟨e0, e1, e2, e3, e4⟩, ⟨e5, e6, e7⟩, ⟨e8, e9⟩, e10, e11⟩ := HF.out wx (HK4.out.trans hwx); go_simp; first | done | with_reducible rfl)
    refine anyIn_read (i := 12) rfl (by kernel_rfl) (by kernel_rfl) (by kernel_rfl) (fun _ _ _ _ h => h) ?_
    apply Exists.intro
    refine ⟨Or.inl ⟨by rfl, fun wx hwx => ?_⟩, ?_⟩
    (go_simp; first | done | with_reducible rfl)
    refine anyIn_two (i := 13) (j := 14) ((Kp.refl _ _).drew) rfl rfl (by kernel_rfl) (fun K hK => ?_) (fun K hK => ?_)
    · go_simp
      refine Calls.mono (Hget.out _ (Kp.refl _ _).drew) ?_
      rintro e w5 ⟨rfl, hk5⟩
      refine hK _ _ ?_
      clear hK K
      refine anyIn_one (i := 14) hk5 rfl (by kernel_rfl) (fun K hK => ?_)
      go_simp
      refine hK _ _ ?_
      clear hK K
      refine anyIn_one (i := 15) (hk5.trans (Kp.alloc _ _ _)) rfl (by kernel_rfl) (fun K hK => ?_)
      go_simp
      refine hK _ _ ?_
      clear hK K
      have hc8 : (w5.alloc (.cells #[.bool ap, .int .i64 an] 50)).heap[w5.heap.size]? = some (.cells #[.bool ap, .int .i64 an] 50) := alloc_get w5 _
      have hk6 : Kp [] w4 (w5.alloc (.cells #[.bool ap, .int .i64 an] 50)) := hk5.trans (Kp.alloc _ _ _)
      refine anyIn_done (hk5.trans (Kp.alloc _ _ _)) (by kernel_rfl) ?_
      go_simp
      go_wp2_with fail
      go_meet
      exact ⟨_, rfl, hc8, hk6⟩
    · go_simp
      refine hK _ _ ?_
      clear hK K
      have hkA : Kp [] w4 (w4.alloc (.cells #[.bool false, .int .i64 0] 50)).drew := (Kp.alloc [] _ _).drew
      have hcA : (w4.alloc (.cells #[.bool false, .int .i64 0] 50)).drew.heap[w4.heap.size]? = some (.cells #[.bool false, .int .i64 0] 50) := alloc_get w4 _
      refine anyIn_one (i := 13) hkA rfl (by kernel_rfl) (fun K hK => ?_)
      go_simp
      refine Calls.mono (Hget2.out _ hkA) ?_
      rintro e w5 ⟨rfl, hk5⟩
      refine hK _ _ ?_
      clear hK K
      have hcB := (hk5.block _ (Array.getElem?_eq_some_iff.1 hcA).1 (by simp)).trans hcA
      have y0 : w5.cell? ⟨w4.heap.size, 0, none⟩ = some (.bool false) := by simp only [World.cell?, hcB]; rfl
      have y1 : w5.cell? ⟨w4.heap.size, 1, none⟩ = some (.int .i64 0) := by simp only [World.cell?, hcB]; rfl
      have y2 : w5.frozen? ⟨w4.heap.size, 0, none⟩ = false := by simp [World.frozen?, hcB]
      have y3 : w5.frozen? ⟨w4.heap.size, 1, none⟩ = false := by simp [World.frozen?, hcB]
      have y4 : w4.heap.size < w5.heap.size := (Array.getElem?_eq_some_iff.1 hcB).1
      have hk5' : Kp [] w4 w5 := hkA.trans hk5
      refine anyIn_one (i := 15) hk5' rfl (by kernel_rfl) (fun K hK => ?_)
      go_simp
      refine hK _ _ ?_
      clear hK K
      have hk6 : Kp [] w4 ((w5.setCell ⟨w4.heap.size, 0, none⟩ (.bool ap)).setCell ⟨w4.heap.size, 1, none⟩ (.int .i64 an)) := hk5'.then ((Kp.setCell (X := [w4.heap.size]) _ _ (by simp) _).trans (Kp.setCell _ _ (by simp) _)) (by simp)
      have hc8 : ((w5.setCell ⟨w4.heap.size, 0, none⟩ (.bool ap)).setCell ⟨w4.heap.size, 1, none⟩ (.int .i64 an)).heap[w4.heap.size]? = some (.cells #[.bool ap, .int .i64 an] 50) := by simp [World.setCell, Array.getElem?_modify, hcB]
      refine anyIn_done hk6 (by kernel_rfl) ?_
      go_simp
      go_wp2_with fail
      go_meet
      exact ⟨_, rfl, hc8, hk6⟩
  case rest =>
  rename World => w6
  obtain ⟨b8, rfl, HC8⟩ := hcut
  have hc8 := HC8.out.1
  have hk6 := HC8.out.2
  clear HC8
  have HG : Hid (∀ wx, Kp [] w6 wx → wx.cell? ⟨b8, 0, none⟩ = some (.bool ap) ∧ wx.cell? ⟨b8, 1, none⟩ = some (.int .i64 an) ∧ b8 < wx.heap.size ∧ wx.cell? ⟨b7, 2, none⟩ = some (.slice (some ⟨g, 0, none⟩) u.fs.length u.fs.length) ∧ b7 < wx.heap.size ∧ (wx.cell? ⟨g, i * 2, none⟩ = some (.bool bp) ∧ wx.cell? ⟨g, i * 2 + 1, none⟩ = some (.int .i64 bn)) ∧ g < wx.heap.size) := fun wx hx => by
    have e8 := (hx.block b8 (Array.getElem?_eq_some_iff.1 hc8).1 (by simp)).trans hc8
    have hx4 := hk6.trans hx
    exact ⟨by simp only [World.cell?, e8]; rfl, by simp only [World.cell?, e8]; rfl, (Array.getElem?_eq_some_iff.1 e8).1, hx4.cell c7 (by simp), Nat.lt_of_lt_of_le l7 hx4.size, ⟨hx4.cell HW2.out.1 (by simp), hx4.cell HW2.out.2 (by simp)⟩, Nat.lt_of_lt_of_le (World.block_lt_of_cell? _ _ HW2.out.1) hx4.size⟩
  have hJ6 := (HJ4.out.kp hk6).up hS
  have hln := Hlen.out
  have hjj := Hj.out
  have Hmore : Hid (∀ wx, Kp [] w6 wx → Calls Try.prog 15 #[.pointer (some ⟨wb, 0, none⟩), .agg #[.bool ap, .int .i64 an], .agg #[.bool bp, .int .i64 bn]] wx fun e w' => e = .returned (.tuple #[]) ∧ StepPost B w wb hp hd base cells S (.returned (.bool true)) w') := fun wx hx => by
    have hJx := hJ6.kp hx
    refine Calls.mono (more_any wx wb _ hd base (some ⟨gp, 0, none⟩) pc ps (some ⟨gq, 0, none⟩) qc qs hJx.ms (by omega) (by omega) ⟨ap, an⟩ ⟨bp, bn⟩) (fun e w' g => ?_)
    obtain ⟨he, vp3, vq3, hJ3, hB3⟩ := hJx.more HI.out.1 HI.out.2.1 HI.out.2.2 (by omega) g
    exact ⟨he, StepPost.mk _ _ _ _ _ _ _ _ _ _ _ _ _ _ hJ3 (HB.out.trans ((((HK4.out.trans hk6).trans hx).below (Nat.le_of_lt HJ.out.lt) (by simp)).trans hB3))⟩
  clear hJ6 hc8 hk6 hln hjj HI Hget Hget2 HW2 HF HJ HB HT HK4 HJ4 HC7 c7 l7
  go_simp
  go_upto_region 28 with fail
  refine region_last 7 (C := fun wx => Kp [] w6 wx) (by kernel_rfl) ?_
  refine anyL_readT 6 (i := 0) rfl (by kernel_rfl) (by kernel_rfl) (by kernel_rfl) (by kernel_rfl) (fun _ _ _ _ h => h) ?_
  apply Exists.intro
  refine ⟨Or.inl ⟨by rfl, fun wx hwx => ?_⟩, ?_⟩
  (go_simp; first | done | with_reducible rfl)
  refine anyL_readT 6 (i := 1) rfl (by kernel_rfl) (by kernel_rfl) (by kernel_rfl) (by kernel_rfl) (fun _ _ _ _ h => h) ?_
  apply Exists.intro
  refine ⟨Or.inl ⟨by rfl, fun wx hwx => ?_⟩, ?_⟩
  (obtain ⟨f0, f1, f2, f3, f4, f5, f6⟩ := HG.out wx hwx; go_simp; first | done | with_reducible rfl)
  refine anyL_readT 6 (i := 2) rfl (by kernel_rfl) (by kernel_rfl) (by kernel_rfl) (by kernel_rfl) (fun _ _ _ _ h => h) ?_
  apply Exists.intro
  refine ⟨Or.inl ⟨by rfl, fun wx hwx => ?_⟩, ?_⟩
  (go_simp; first | done | with_reducible rfl)
  refine anyL_readT 6 (i := 3) rfl (by kernel_rfl) (by kernel_rfl) (by kernel_rfl) (by kernel_rfl) (fun _ _ _ _ h => h) ?_
  apply Exists.intro
  refine ⟨Or.inl ⟨by rfl, fun wx hwx => ?_⟩, ?_⟩
  (obtain ⟨f0, f1, f2, f3, f4, f5, f6⟩ := HG.out wx hwx; go_simp; first | done | with_reducible rfl)
  refine anyL_readT 6 (i := 4) rfl (by kernel_rfl) (by kernel_rfl) (by kernel_rfl) (by kernel_rfl) (fun _ _ _ _ h => h) ?_
  apply Exists.intro
  refine ⟨Or.inl ⟨by rfl, fun wx hwx => ?_⟩, ?_⟩
  (go_simp; first | done | with_reducible rfl)
  refine anyL_readT 6 (i := 5) rfl (by kernel_rfl) (by kernel_rfl) (by kernel_rfl) (by kernel_rfl) (fun _ _ _ _ h => h) ?_
  apply Exists.intro
  refine ⟨Or.inl ⟨by rfl, fun wx hwx => ?_⟩, ?_⟩
  (obtain ⟨f0, f1, f2, f3, f4, f5, f6⟩ := HG.out wx hwx; go_simp; first | done | with_reducible rfl)
  refine anyL_readT 6 (i := 6) rfl (by kernel_rfl) (by kernel_rfl) (by kernel_rfl) (by kernel_rfl) (fun _ _ _ _ h => h) ?_
  apply Exists.intro
  refine ⟨Or.inl ⟨by rfl, fun wx hwx => ?_⟩, ?_⟩
  (obtain ⟨f0, f1, f2, f3, f4, f5, f6⟩ := HG.out wx hwx; go_simp; first | done | with_reducible rfl)
  refine anyL_one (i := 7) ((Kp.refl _ _).drew) rfl (by kernel_rfl) (fun K hK => ?_)
  go_simp
  refine Calls.mono (Hmore.out _ (Kp.refl _ _).drew) ?_
  rintro e w8 ⟨rfl, hst⟩
  refine hK _ _ ?_
  clear hK K
  have Q : Hid (StepPost B w wb hp hd base cells S (.returned (.bool true)) w8) := hst
  clear hst Hmore HG
  refine anyL_done (by kernel_rfl) (by kernel_rfl) ?_
  go_wp2_with fail
  exact bodyPost_ret (by simp [results, Try.results5, go_sem]) rfl Q.out
end
end Go.Proofs.Ytfeopoamednidaa
