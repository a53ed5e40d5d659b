/-
  The law's step: a root is dropped.
-/
import Derived.Test.YtfeopoamednidaaSA
namespace Go.Proofs.Ytfeopoamednidaa
open Go.RowKit Go.Deep Go.IntWalk
section
set_option maxHeartbeats 8000000
set_option maxRecDepth 100000
theorem slice_hi (g n c j : Nat) (hj : j ≤ c) (wx : World) : (Instr.slice 32 (.slice (some ⟨g, 0, none⟩) n c) none (some (.int .i64 (j : Int))) none).run Try.prog wx = .ok (.slice (some ⟨g, 0, none⟩) j c) wx := by
  rw [run_slice_h (P := Try.prog) wx 32 _ n c (by kernel_rfl) .i64 j (by omega) (by omega)]
  rw [show (sizeOf (Try.prog.elem 32)).run Try.prog wx = .ok 2 wx from by kernel_rfl]
  simp [Result.andThen, sliced, add_at]
theorem slice_lo (g n c j : Nat) (hj : j ≤ n) (hc : n ≤ c) : ∃ (a : Addr) (c2 : Nat), (∀ wx, (Instr.slice 32 (.slice (some ⟨g, 0, none⟩) n c) (some (.int .i64 (j : Int))) none none).run Try.prog wx = .ok (.slice (some a) (n - j) c2) wx) ∧ ∀ w l, l.length = n → RowC w (some ⟨g, 0, none⟩) l → RowC w (some a) (l.drop j) := by
  refine ⟨if c = j then ⟨g, 0, none⟩ else ⟨g, j * 2, none⟩, c - j, fun wx => ?_, fun w l hl h => ?_⟩
  · rw [run_slice_l (P := Try.prog) wx 32 _ n c (by kernel_rfl) .i64 j (by omega) (by omega)]
    rw [show (sizeOf (Try.prog.elem 32)).run Try.prog wx = .ok 2 wx from by kernel_rfl]
    simp only [Result.andThen, sliced, Int.toNat_natCast]
    split
    · simp
    · simp [add_at]
  · refine ⟨by have := h.len; simp; omega, fun i hi => ?_⟩
    have hi2 : j + i < l.length := by simp at hi; omega
    obtain ⟨b, o, e, k1, k2⟩ := h.get (j + i) hi2
    cases e
    have hne : ¬ (c = j) := by omega
    refine ⟨g, j * 2, by rw [if_neg hne], ?_, ?_⟩
    · rw [List.getElem_drop, ← k1]
      congr 2
      omega
    · rw [List.getElem_drop, ← k2]
      congr 2
      omega
theorem MS.putP {w w1 : World} {wb : Nat} {hv : Value} {hb base : Nat} {vp : Value} {ps : List Cl} {vq : Value} {qs : List Cl} (h : MS w wb hv hb base vp ps vq qs) {v1 : Value} {l : List Cl} (hk : Kp [] w w1) (ho : OwnC w1 base v1 l) (hf : ∀ k, v1.ownBlock = some k → w.heap.size ≤ k) :
    MS (w1.setCell ⟨wb, 2, none⟩ v1) wb hv hb base v1 l vq qs ∧ Kp [wb] w (w1.setCell ⟨wb, 2, none⟩ v1) := by
  have hset : Kp [wb] w1 (w1.setCell ⟨wb, 2, none⟩ v1) := Kp.setCell _ _ (by simp) _
  have h1 := h.kp hk (by simp)
  have hl := h.lt
  refine ⟨⟨setCell42 h1.box, ho.keep (fun k e => hset.block k (ho.block k e).2 (by simp; have := (ho.block k e).1; omega)), h1.q.keep (fun k e => hset.block k (h1.q.block k e).2 (by simp; have := (h1.q.block k e).1; omega)), fun k e e' => ?_, h.lt, Nat.le_trans h1.le hset.size⟩, (hk.mono (by simp)).trans hset⟩
  have := hf k e
  have := (h.q.block k e').2
  omega
theorem MS.putQ {w w1 : World} {wb : Nat} {hv : Value} {hb base : Nat} {vp : Value} {ps : List Cl} {vq : Value} {qs : List Cl} (h : MS w wb hv hb base vp ps vq qs) {v1 : Value} {l : List Cl} (hk : Kp [] w w1) (ho : OwnC w1 base v1 l) (hf : ∀ k, v1.ownBlock = some k → w.heap.size ≤ k) :
    MS (w1.setCell ⟨wb, 3, none⟩ v1) wb hv hb base vp ps v1 l ∧ Kp [wb] w (w1.setCell ⟨wb, 3, none⟩ v1) := by
  have hset : Kp [wb] w1 (w1.setCell ⟨wb, 3, none⟩ v1) := Kp.setCell _ _ (by simp) _
  have h1 := h.kp hk (by simp)
  have hl := h.lt
  refine ⟨⟨setCell43 h1.box, h1.p.keep (fun k e => hset.block k (h1.p.block k e).2 (by simp; have := (h1.p.block k e).1; omega)), ho.keep (fun k e => hset.block k (ho.block k e).2 (by simp; have := (ho.block k e).1; omega)), fun k e e' => ?_, h.lt, Nat.le_trans h1.le hset.size⟩, (hk.mono (by simp)).trans hset⟩
  have := hf k e'
  have := (h.p.block k e).2
  omega
theorem drop_runs (w : World) (base g n : Nat) (c j j1 : Nat) (ps : List Cl) (hn : ps.length = n) (hj : j < n) (hj1 : j1 = j + 1) (hl : n ≤ 3000000000000) (hb : base ≤ w.heap.size) (hr : RowC w (some ⟨g, 0, none⟩) ps) (a2 : Addr) (c2 : Nat) (h2 : ∀ w l, l.length = n → RowC w (some ⟨g, 0, none⟩) l → RowC w (some a2) (l.drop j1)) :
    ∃ v4 w4, (Builtin.append_ #[32, 32] 32 #[.slice (some ⟨w.heap.size, 0, none⟩) 0 0, .slice (some ⟨g, 0, none⟩) j c]).run Try.prog (w.alloc (.cells #[] 50)).drew = .ok v4 w4 ∧ Kp [] w w4 ∧
      ∃ p5 c5 w5, (Builtin.append_ #[32, 32] 32 #[v4, .slice (some a2) (n - j1) c2]).run Try.prog w4 = .ok (.slice p5 (n - 1) c5) w5 ∧ Kp [] w w5 ∧ OwnC w5 base (.slice p5 (n - 1) c5) (ps.eraseIdx j) ∧ ∀ k, (Value.slice p5 (n - 1) c5).ownBlock = some k → w.heap.size ≤ k := by
  have hk3 : Kp [] w (w.alloc (.cells #[] 50)).drew := (Kp.alloc [] _ _).drew
  have ho3 : OwnC (w.alloc (.cells #[] 50)).drew base (.slice (some ⟨w.heap.size, 0, none⟩) 0 0) [] := ⟨by simp [cellsV], .inr ⟨w.heap.size, 0, #[], rfl, hb, alloc_get w _, by simp, by simp, by simp, by simp [cellsV]⟩⟩
  have hr3 : RowC (w.alloc (.cells #[] 50)).drew (some ⟨g, 0, none⟩) ps := hr.kp hk3 (by simp)
  have hrt : RowC (w.alloc (.cells #[] 50)).drew (some ⟨g, 0, none⟩) (ps.take j) := ⟨by have := hr.len; simp; omega, fun i hi => by
    have hi2 : i < ps.length := by simp at hi; omega
    obtain ⟨b, o, e, k1, k2⟩ := hr3.get i hi2
    exact ⟨b, o, e, by rw [List.getElem_take]; exact k1, by rw [List.getElem_take]; exact k2⟩⟩
  have e1 : (ps.take j).length = j := by simp; omega
  obtain ⟨v4, w4, hrun, ho4, hg4, hv4⟩ := run_append_cells ho3 hrt (cap := c) (fun h => by cases h) (by rw [e1]; simp; omega) (Nat.le_trans hb hk3.size) 32
  rw [e1] at hrun
  have hk4 : Kp [] w w4 := hk3.then (Kp.of_grown (X := [w.heap.size]) hg4 (by rintro k ⟨⟩; simp)) (by simp)
  have hf4 : ∀ k, v4.ownBlock = some k → w.heap.size ≤ k := fun k e => by
    rcases hv4 with h | h
    · rw [h] at e
      cases e
      exact Nat.le_refl _
    · rw [h] at e
      cases e
      exact hk3.size
  have hr4 : RowC w4 (some a2) (ps.drop j1) := h2 w4 ps hn (hr.kp hk4 (by simp))
  have e2 : (ps.drop j1).length = n - j1 := by simp; omega
  obtain ⟨v5, w5, hrun5, ho5, hg5, hv5⟩ := run_append_cells ho4 hr4 (cap := c2) (fun h => by cases h) (by simp; omega) (Nat.le_trans hb hk4.size) 32
  rw [e2] at hrun5
  have hk5 : Kp [] w w5 := hk4.then (Kp.of_grown (X := v4.ownBlock.toList) hg5 (by intro k hk; simp [hk])) (fun y hy => Or.inr (hf4 y (by simpa using hy)))
  have e3 : [] ++ ps.take j ++ ps.drop j1 = ps.eraseIdx j := by rw [hj1, List.eraseIdx_eq_take_drop_succ]; rfl
  rw [e3] at ho5
  have e4 : (ps.eraseIdx j).length = n - 1 := by rw [List.length_eraseIdx]; split <;> omega
  obtain ⟨p5, c5, hv, _, _⟩ := OwnC.at ho5 (by rw [e4]; unfold maxLen; omega)
  rw [e4] at hv
  subst hv
  refine ⟨v4, w4, hrun, hk4, p5, c5, w5, hrun5, hk5, ho5, fun k e => ?_⟩
  rcases hv5 with h | h
  · exact hf4 k (h ▸ e)
  · rw [h] at e
    cases e
    exact hk4.size
theorem step_drop (B : Nat) (w : World) (wb hp hd base : Nat) (cells : Int) (S : Nat) (first : Int) (v : Value) (ts : List Th) (vp : Value) (ps : List Cl) (vq : Value) (qs : List Cl) (next : Int) (D : Doc) (mp : Option Nat) (q : Int → Option Addr) (ks : List Int) (R : Int → Int → Prop) (h : Jt B w wb hp hd base cells S first v ts vp ps vq qs next D mp q ks R) (hS : S + 1 ≤ 3000000000000) (oa ob oc : Int) (lv : Value) (hn : 0 < ps.length) (ha : (Lit.int .i64 oa).wf = true) :
    Calls Try.prog 5 #[.pointer (some ⟨wb, 0, none⟩), .agg #[.int .i64 4, .int .i64 oa, .int .i64 ob, .int .i64 oc, lv]] w fun e w' => StepPost B w wb hp hd base cells S e w' := by
  have hk1 : Kp [] w (w.alloc (.cells #[.int .i64 4, .int .i64 oa, .int .i64 ob, .int .i64 oc, lv] 38)) := Kp.alloc _ _ _
  have hbx : (w.alloc (.cells #[.int .i64 4, .int .i64 oa, .int .i64 ob, .int .i64 oc, lv] 38)).heap[w.heap.size]? = some (.cells #[.int .i64 4, .int .i64 oa, .int .i64 ob, .int .i64 oc, lv] 38) := alloc_get w _
  have hJ1 := h.kp hk1
  have hB1 : Below B w (w.alloc (.cells #[.int .i64 4, .int .i64 oa, .int .i64 ob, .int .i64 oc, lv] 38)) := hk1.below (Nat.le_of_lt h.lt) (by simp)
  obtain ⟨pp, pc, gp, hvp, hpc, hgp⟩ := rv_form h.ms.p
  obtain ⟨qq, qc, gq, hvq, hqc, hgq⟩ := rv_form h.ms.q
  subst hvp
  subst hvq
  have hj := pickN_lt oa hn
  have hpl : ps.length ≤ S := h.pl
  have HX : Hid (∀ wx, Kp [] (w.alloc (.cells #[.int .i64 4, .int .i64 oa, .int .i64 ob, .int .i64 oc, lv] 38)) wx → (wx.cell? ⟨w.heap.size, 0, none⟩ = some (.int .i64 4) ∧ wx.cell? ⟨w.heap.size, 1, none⟩ = some (.int .i64 oa) ∧ wx.cell? ⟨w.heap.size, 2, none⟩ = some (.int .i64 ob) ∧ wx.cell? ⟨w.heap.size, 3, none⟩ = some (.int .i64 oc) ∧ w.heap.size < wx.heap.size) ∧ wx.cell? ⟨wb, 2, none⟩ = some (.slice pp ps.length pc) ∧ wb < wx.heap.size) := fun wx hx => by
    have e1 := (hx.block _ (Array.getElem?_eq_some_iff.1 hbx).1 (by simp)).trans hbx
    have e2 := (hJ1.kp hx).ms.box
    exact ⟨⟨by simp only [World.cell?, e1]; rfl, by simp only [World.cell?, e1]; rfl, by simp only [World.cell?, e1]; rfl, by simp only [World.cell?, e1]; rfl, (Array.getElem?_eq_some_iff.1 e1).1⟩, by simp only [World.cell?, e2]; rfl, (Array.getElem?_eq_some_iff.1 e2).1⟩
  have HP : Hid (∀ wx, Kp [] (w.alloc (.cells #[.int .i64 4, .int .i64 oa, .int .i64 ob, .int .i64 oc, lv] 38)) wx → Calls Try.prog 8 #[.int .i64 oa, .int .i64 ps.length] wx fun e w' => e = .returned (.int .i64 (pickN oa ps.length : Nat)) ∧ Kp [] (w.alloc (.cells #[.int .i64 4, .int .i64 oa, .int .i64 ob, .int .i64 oc, lv] 38)) w') := fun wx hx => Calls.mono (pick_any wx oa ps.length ha hn (by omega)) (fun e w' g => ⟨g.1, by rw [g.2]; exact hx⟩)
  have HJ1 : Hid (Jt B (w.alloc (.cells #[.int .i64 4, .int .i64 oa, .int .i64 ob, .int .i64 oc, lv] 38)) wb hp hd base cells S first v ts (.slice pp ps.length pc) ps (.slice qq qs.length qc) qs next D mp q ks R) := hJ1
  have HB1 : Hid (Below B w (w.alloc (.cells #[.int .i64 4, .int .i64 oa, .int .i64 ob, .int .i64 oc, lv] 38))) := hB1
  have hne : ((ps.length : Int) == 0) = false := by
    have : ¬ ((ps.length : Int) = 0) := by omega
    simpa using this
  obtain ⟨⟨z0, z1, z2, z3, zl⟩, c2, cl⟩ := HX.out _ (Kp.refl [] _)
  have Hgp : Hid (pp = some ⟨gp, 0, none⟩) := (hgp hn).1
  have Hgq : Hid (0 < qs.length → qq = some ⟨gq, 0, none⟩) := fun h => (hgq h).1
  have Hlen : Hid (ps.length = qs.length) := h.iso.roots.len
  have Hj : Hid (pickN oa ps.length < ps.length ∧ ps.length ≤ S ∧ ps.length ≤ pc ∧ qs.length ≤ qc) := ⟨hj, hpl, hpc, hqc⟩
  clear h hk1 hbx hJ1 hB1 hgp hgq hj hpl hpc hqc ha
  go_enter Try.func5, Try.ntmps5
  go_upto_region 11 with fail
  clear z0 z1 z2 z3 zl c2 cl
  generalize w.alloc (.cells #[.int .i64 4, .int .i64 oa, .int .i64 ob, .int .i64 oc, lv] 38) = w1 at *
  generalize w.heap.size = b0 at *
  generalize pickN oa ps.length = j at *
  refine region_in (C := fun wx => Kp [] w1 wx) (by kernel_rfl) (by kernel_rfl) ((Kp.refl _ _).drew) ?_
  repeat
    refine wpQuiet_step (fun K hK => ?_)
    first
      | (go_simp; refine hK _ ?_; clear hK K)
      | (rw [if_pos (by rfl)]; apply Exists.intro; refine ⟨fun wx hwx => ?_, hK _ ?_⟩; (obtain ⟨⟨e0, e1, e2, e3, e4⟩, e5, e6⟩ := HX.out wx hwx; unfold Oper.quietAt; go_simp; first | done | rfl | exact ⟨rfl, rfl⟩ | exact HP.out _ hwx); clear hK K; go_simp)
  refine wpQuiet_nil ?_
  intro w2 hw2
  obtain ⟨⟨z0, z1, z2, z3, zl⟩, c2, cl⟩ := HX.out w2 hw2
  have HJ : Hid (Jt B w2 wb hp hd base cells S first v ts (.slice pp ps.length pc) ps (.slice qq qs.length qc) qs next D mp q ks R) := HJ1.out.kp hw2
  have HB : Hid (Below B w w2) := HB1.out.trans (hw2.below (Nat.le_of_lt HJ1.out.lt) (by simp))
  clear HX HP HJ1 HB1 hne hw2 w1
  clear z1 z2 z3
  go_upto_region 14 with fail
  clear z0 zl c2 cl
  obtain rfl := Hgp.out
  obtain rfl := Hgq.out (by have := Hlen.out; omega)
  clear Hgp Hgq
  have HM : Hid (MS w2 wb (.pointer (some ⟨hp, 0, none⟩)) hd base (.slice (some ⟨gp, 0, none⟩) ps.length pc) ps (.slice (some ⟨gq, 0, none⟩) qs.length qc) qs) := HJ.out.ms
  have HR : Hid (RowC w2 (some ⟨gp, 0, none⟩) ps) := by
    obtain ⟨p9, c9, e9, _, hr⟩ := OwnC.at HJ.out.ms.p (by unfold maxLen; have := Hj.out; omega)
    cases e9
    exact hr
  have HRq : Hid (RowC w2 (some ⟨gq, 0, none⟩) qs) := by
    obtain ⟨p9, c9, e9, _, hr⟩ := OwnC.at HJ.out.ms.q (by unfold maxLen; have := Hj.out; have := Hlen.out; omega)
    cases e9
    exact hr
  obtain ⟨j1, hj1e⟩ : ∃ j1, j1 = j + 1 := ⟨_, rfl⟩
  have hj1 : IntKind.i64.wrap ((j : Int) + 1) = (j1 : Int) := by rw [IntKind.wrap_i64]; have := Hj.out; omega
  have Hj1 : Hid (j1 = j + 1) := hj1e
  clear hj1e
  have HC : Hid (∀ wx, Kp [] w2 wx → wx.cell? ⟨wb, 2, none⟩ = some (.slice (some ⟨gp, 0, none⟩) ps.length pc) ∧ wb < wx.heap.size ∧ wx.frozen? ⟨wb, 2, none⟩ = false) := fun wx hx => by
    have e2 := (HM.out.kp hx (by simp)).box
    exact ⟨by simp only [World.cell?, e2]; rfl, (Array.getElem?_eq_some_iff.1 e2).1, by simp [World.frozen?, e2]⟩
  have hs1 := slice_hi gp ps.length pc j (by have := Hj.out; have := Hlen.out; omega)
  obtain ⟨a2, k2, hs2, hr2⟩ := slice_lo gp ps.length pc j1 (by have := Hj.out; have := Hj1.out; have := Hlen.out; omega) (by have := Hj.out; omega)
  obtain ⟨v4, w4, hrun4, hk4, p5, c5, w5, hrun5, hk5, ho5, hf5⟩ := drop_runs w2 base gp ps.length pc j j1 ps rfl (by have := Hj.out; have := Hlen.out; omega) Hj1.out (by have := Hj.out; have := Hlen.out; omega) HM.out.le HR.out a2 k2 hr2
  have Hrun4 : Hid _ := hrun4
  have Hrun5 : Hid _ := hrun5
  have HK4 : Hid (Kp [] w2 w4) := hk4
  have HK5 : Hid (Kp [] w2 w5) := hk5
  have HO5 : Hid (OwnC w5 base (.slice p5 (ps.length - 1) c5) (ps.eraseIdx j) ∧ ∀ k, (Value.slice p5 (ps.length - 1) c5).ownBlock = some k → w2.heap.size ≤ k) := ⟨ho5, hf5⟩
  clear hr2 hrun4 hrun5 hk4 hk5 ho5 hf5
  refine region_last 19 (C := fun wx => Kp [] w2 wx) (by kernel_rfl) ?_
  refine anyL_read (i := 0) rfl (by kernel_rfl) (by kernel_rfl) (by kernel_rfl) (by kernel_rfl) (fun _ _ _ _ h => h) ?_
  apply Exists.intro
  refine ⟨Or.inl ⟨by rfl, fun wx hwx => ?_⟩, ?_⟩
  (go_simp; first | done | with_reducible rfl)
  refine anyL_read (i := 2) rfl (by kernel_rfl) (by kernel_rfl) (by kernel_rfl) (by kernel_rfl) (fun _ _ _ _ h => h) ?_
  apply Exists.intro
  refine ⟨Or.inl ⟨by rfl, fun wx hwx => ?_⟩, ?_⟩
  (go_simp; first | done | with_reducible rfl)
  refine anyL_read (i := 3) rfl (by kernel_rfl) (by kernel_rfl) (by kernel_rfl) (by kernel_rfl) (fun _ _ _ _ h => h) ?_
  apply Exists.intro
  refine ⟨Or.inl ⟨by rfl, fun wx hwx => ?_⟩, ?_⟩
  (go_simp; first | done | with_reducible rfl)
  refine anyL_read (i := 4) rfl (by kernel_rfl) (by kernel_rfl) (by kernel_rfl) (by kernel_rfl) (fun _ _ _ _ h => h) ?_
  apply Exists.intro
  refine ⟨Or.inl ⟨by rfl, fun wx hwx => ?_⟩, ?_⟩
  (go_simp; first | done | with_reducible rfl)
  refine anyL_read (i := 5) rfl (by kernel_rfl) (by kernel_rfl) (by kernel_rfl) (by kernel_rfl) (fun _ _ _ _ h => h) ?_
  apply Exists.intro
  refine ⟨Or.inl ⟨by rfl, fun wx hwx => ?_⟩, ?_⟩
  (obtain ⟨f0, f1, f2⟩ := HC.out wx hwx; go_simp; first | done | with_reducible rfl)
  refine anyL_read (i := 6) rfl (by kernel_rfl) (by kernel_rfl) (by kernel_rfl) (by kernel_rfl) (fun _ _ _ _ h => h) ?_
  apply Exists.intro
  refine ⟨Or.inl ⟨by rfl, fun wx hwx => ?_⟩, ?_⟩
  (go_simp; first | done | with_reducible rfl)
  refine anyL_read (i := 7) rfl (by kernel_rfl) (by kernel_rfl) (by kernel_rfl) (by kernel_rfl) (fun _ _ _ _ h => h) ?_
  apply Exists.intro
  refine ⟨Or.inl ⟨by rfl, fun wx hwx => ?_⟩, ?_⟩
  (go_simp; first | done | with_reducible rfl)
  refine anyL_read (i := 9) rfl (by kernel_rfl) (by kernel_rfl) (by kernel_rfl) (by kernel_rfl) (fun _ _ _ _ h => h) ?_
  apply Exists.intro
  refine ⟨Or.inl ⟨by rfl, fun wx hwx => ?_⟩, ?_⟩
  (go_simp; first | done | with_reducible rfl)
  refine anyL_read (i := 10) rfl (by kernel_rfl) (by kernel_rfl) (by kernel_rfl) (by kernel_rfl) (fun _ _ _ _ h => h) ?_
  apply Exists.intro
  refine ⟨Or.inl ⟨by rfl, fun wx hwx => ?_⟩, ?_⟩
  (go_simp; first | done | with_reducible rfl)
  refine anyL_read (i := 11) rfl (by kernel_rfl) (by kernel_rfl) (by kernel_rfl) (by kernel_rfl) (fun _ _ _ _ h => h) ?_
  apply Exists.intro
  refine ⟨Or.inl ⟨by rfl, fun wx hwx => ?_⟩, ?_⟩
  (go_simp; first | done | with_reducible rfl)
  refine anyL_read (i := 12) rfl (by kernel_rfl) (by kernel_rfl) (by kernel_rfl) (by kernel_rfl) (fun _ _ _ _ h => h) ?_
  apply Exists.intro
  refine ⟨Or.inl ⟨by rfl, fun wx hwx => ?_⟩, ?_⟩
  (obtain ⟨f0, f1, f2⟩ := HC.out wx hwx; go_simp; first | done | with_reducible rfl)
  refine anyL_read (i := 13) rfl (by kernel_rfl) (by kernel_rfl) (by kernel_rfl) (by kernel_rfl) (fun _ _ _ _ h => h) ?_
  apply Exists.intro
  refine ⟨Or.inl ⟨by rfl, fun wx hwx => ?_⟩, ?_⟩
  (go_simp; first | done | with_reducible rfl)
  refine anyL_read (i := 14) rfl (by kernel_rfl) (by kernel_rfl) (by kernel_rfl) (by kernel_rfl) (fun _ _ _ _ h => h) ?_
  apply Exists.intro
  refine ⟨Or.inl ⟨by rfl, fun wx hwx => ?_⟩, ?_⟩
  (go_simp; first | done | with_reducible rfl)
  refine anyL_read (i := 15) rfl (by kernel_rfl) (by kernel_rfl) (by kernel_rfl) (by kernel_rfl) (fun _ _ _ _ h => h) ?_
  apply Exists.intro
  refine ⟨Or.inl ⟨by rfl, fun wx hwx => ?_⟩, ?_⟩
  (go_simp; first | done | with_reducible rfl)
  refine anyL_one (i := 1) ((Kp.refl _ _).drew) rfl (by kernel_rfl) (fun K hK => ?_)
  go_simp
  refine hK _ _ ?_
  clear hK K
  refine anyL_one (i := 8) (Kp.alloc [] _ _).drew rfl (by kernel_rfl) (fun K hK => ?_)
  rw [if_pos (by rfl)]
  refine Lib.wp_append_run _ (Operand.tmp 80) (Operand.tmp 86) 32 32 rfl _ _ rfl rfl _ _ Hrun4.out ?_
  refine hK _ _ ?_
  clear hK K Hrun4
  refine anyL_one (i := 16) HK4.out rfl (by kernel_rfl) (fun K hK => ?_)
  rw [if_pos (by rfl)]
  refine Lib.wp_append_run _ (Operand.tmp 87) (Operand.tmp 94) 32 32 rfl _ _ rfl rfl _ _ Hrun5.out ?_
  refine hK _ _ ?_
  clear hK K Hrun5 HK4
  obtain ⟨f0, f1, f2⟩ := HC.out w5 HK5.out
  refine anyL_one (i := 17) HK5.out rfl (by kernel_rfl) (fun K hK => ?_)
  go_simp
  refine hK _ _ ?_
  clear hK K
  refine anyL_one (i := 18) HK5.out rfl (by kernel_rfl) (fun K hK => ?_)
  go_simp
  refine hK _ _ ?_
  clear hK K
  refine anyL_one (i := 19) HK5.out rfl (by kernel_rfl) (fun K hK => ?_)
  go_simp
  refine hK _ _ ?_
  clear hK K
  refine anyL_done (by kernel_rfl) (by kernel_rfl) ?_
  go_simp
  clear f0 f1 f2 hs1 hs2 HC
  have HM7 : Hid _ := HM.out.putP HK5.out HO5.out.1 HO5.out.2
  have HF7 : Hid (∀ k, (Value.slice p5 (ps.length - 1) c5).ownBlock = some k → w2.heap.size ≤ k) := HO5.out.2
  clear HO5 HK5 HR
  generalize (w5.setCell ⟨wb, 2, none⟩ (.slice p5 (ps.length - 1) c5)) = w7 at *
  have HR : Hid (RowC w7 (some ⟨gq, 0, none⟩) qs) := HRq.out.kp HM7.out.2 (by
    rintro b ⟨⟩
    simp
    have := (HM.out.q.block gq rfl).1
    have := HM.out.lt
    omega)
  have HK7 : Hid (Kp [wb] w2 w7) := HM7.out.2
  have HM2 := HM7.out.1
  clear HM HRq HM7
  have HM : Hid (MS w7 wb (.pointer (some ⟨hp, 0, none⟩)) hd base (.slice p5 (ps.length - 1) c5) (ps.eraseIdx j) (.slice (some ⟨gq, 0, none⟩) qs.length qc) qs) := HM2
  clear HM2
  generalize p5 = p7 at *
  generalize c5 = c7 at *
  go_upto_region 15 with fail
  have HC : Hid (∀ wx, Kp [] w7 wx → wx.cell? ⟨wb, 3, none⟩ = some (.slice (some ⟨gq, 0, none⟩) qs.length qc) ∧ wb < wx.heap.size ∧ wx.frozen? ⟨wb, 3, none⟩ = false) := fun wx hx => by
    have e2 := (HM.out.kp hx (by simp)).box
    exact ⟨by simp only [World.cell?, e2]; rfl, (Array.getElem?_eq_some_iff.1 e2).1, by simp [World.frozen?, e2]⟩
  have hs1 := slice_hi gq qs.length qc j (by have := Hj.out; have := Hlen.out; omega)
  obtain ⟨a2, k2, hs2, hr2⟩ := slice_lo gq qs.length qc j1 (by have := Hj.out; have := Hj1.out; have := Hlen.out; omega) (by have := Hj.out; omega)
  obtain ⟨v4, w4, hrun4, hk4, p5, c5, w5, hrun5, hk5, ho5, hf5⟩ := drop_runs w7 base gq qs.length qc j j1 qs rfl (by have := Hj.out; have := Hlen.out; omega) Hj1.out (by have := Hj.out; have := Hlen.out; omega) HM.out.le HR.out a2 k2 hr2
  have Hrun4 : Hid _ := hrun4
  have Hrun5 : Hid _ := hrun5
  have HK4 : Hid (Kp [] w7 w4) := hk4
  have HK5 : Hid (Kp [] w7 w5) := hk5
  have HO5 : Hid (OwnC w5 base (.slice p5 (qs.length - 1) c5) (qs.eraseIdx j) ∧ ∀ k, (Value.slice p5 (qs.length - 1) c5).ownBlock = some k → w7.heap.size ≤ k) := ⟨ho5, hf5⟩
  clear hr2 hrun4 hrun5 hk4 hk5 ho5 hf5
  refine region_last 19 (C := fun wx => Kp [] w7 wx) (by kernel_rfl) ?_
  refine anyL_read (i := 0) rfl (by kernel_rfl) (by kernel_rfl) (by kernel_rfl) (by kernel_rfl) (fun _ _ _ _ h => h) ?_
  apply Exists.intro
  refine ⟨Or.inl ⟨by rfl, fun wx hwx => ?_⟩, ?_⟩
  (go_simp; first | done | with_reducible rfl)
  refine anyL_read (i := 2) rfl (by kernel_rfl) (by kernel_rfl) (by kernel_rfl) (by kernel_rfl) (fun _ _ _ _ h => h) ?_
  apply Exists.intro
  refine ⟨Or.inl ⟨by rfl, fun wx hwx => ?_⟩, ?_⟩
  (go_simp; first | done | with_reducible rfl)
  refine anyL_read (i := 3) rfl (by kernel_rfl) (by kernel_rfl) (by kernel_rfl) (by kernel_rfl) (fun _ _ _ _ h => h) ?_
  apply Exists.intro
  refine ⟨Or.inl ⟨by rfl, fun wx hwx => ?_⟩, ?_⟩
  (go_simp; first | done | with_reducible rfl)
  refine anyL_read (i := 4) rfl (by kernel_rfl) (by kernel_rfl) (by kernel_rfl) (by kernel_rfl) (fun _ _ _ _ h => h) ?_
  apply Exists.intro
  refine ⟨Or.inl ⟨by rfl, fun wx hwx => ?_⟩, ?_⟩
  (go_simp; first | done | with_reducible rfl)
  refine anyL_read (i := 5) rfl (by kernel_rfl) (by kernel_rfl) (by kernel_rfl) (by kernel_rfl) (fun _ _ _ _ h => h) ?_
  apply Exists.intro
  refine ⟨Or.inl ⟨by rfl, fun wx hwx => ?_⟩, ?_⟩
  (obtain ⟨f0, f1, f2⟩ := HC.out wx hwx; go_simp; first | done | with_reducible rfl)
  refine anyL_read (i := 6) rfl (by kernel_rfl) (by kernel_rfl) (by kernel_rfl) (by kernel_rfl) (fun _ _ _ _ h => h) ?_
  apply Exists.intro
  refine ⟨Or.inl ⟨by rfl, fun wx hwx => ?_⟩, ?_⟩
  (go_simp; first | done | with_reducible rfl)
  refine anyL_read (i := 7) rfl (by kernel_rfl) (by kernel_rfl) (by kernel_rfl) (by kernel_rfl) (fun _ _ _ _ h => h) ?_
  apply Exists.intro
  refine ⟨Or.inl ⟨by rfl, fun wx hwx => ?_⟩, ?_⟩
  (go_simp; first | done | with_reducible rfl)
  refine anyL_read (i := 9) rfl (by kernel_rfl) (by kernel_rfl) (by kernel_rfl) (by kernel_rfl) (fun _ _ _ _ h => h) ?_
  apply Exists.intro
  refine ⟨Or.inl ⟨by rfl, fun wx hwx => ?_⟩, ?_⟩
  (go_simp; first | done | with_reducible rfl)
  refine anyL_read (i := 10) rfl (by kernel_rfl) (by kernel_rfl) (by kernel_rfl) (by kernel_rfl) (fun _ _ _ _ h => h) ?_
  apply Exists.intro
  refine ⟨Or.inl ⟨by rfl, fun wx hwx => ?_⟩, ?_⟩
  (go_simp; first | done | with_reducible rfl)
  refine anyL_read (i := 11) rfl (by kernel_rfl) (by kernel_rfl) (by kernel_rfl) (by kernel_rfl) (fun _ _ _ _ h => h) ?_
  apply Exists.intro
  refine ⟨Or.inl ⟨by rfl, fun wx hwx => ?_⟩, ?_⟩
  (go_simp; first | done | with_reducible rfl)
  refine anyL_read (i := 12) rfl (by kernel_rfl) (by kernel_rfl) (by kernel_rfl) (by kernel_rfl) (fun _ _ _ _ h => h) ?_
  apply Exists.intro
  refine ⟨Or.inl ⟨by rfl, fun wx hwx => ?_⟩, ?_⟩
  (obtain ⟨f0, f1, f2⟩ := HC.out wx hwx; go_simp; first | done | with_reducible rfl)
  refine anyL_read (i := 13) rfl (by kernel_rfl) (by kernel_rfl) (by kernel_rfl) (by kernel_rfl) (fun _ _ _ _ h => h) ?_
  apply Exists.intro
  refine ⟨Or.inl ⟨by rfl, fun wx hwx => ?_⟩, ?_⟩
  (go_simp; first | done | with_reducible rfl)
  refine anyL_read (i := 14) rfl (by kernel_rfl) (by kernel_rfl) (by kernel_rfl) (by kernel_rfl) (fun _ _ _ _ h => h) ?_
  apply Exists.intro
  refine ⟨Or.inl ⟨by rfl, fun wx hwx => ?_⟩, ?_⟩
  (go_simp; first | done | with_reducible rfl)
  refine anyL_read (i := 15) rfl (by kernel_rfl) (by kernel_rfl) (by kernel_rfl) (by kernel_rfl) (fun _ _ _ _ h => h) ?_
  apply Exists.intro
  refine ⟨Or.inl ⟨by rfl, fun wx hwx => ?_⟩, ?_⟩
  (go_simp; first | done | with_reducible rfl)
  refine anyL_one (i := 1) ((Kp.refl _ _).drew) rfl (by kernel_rfl) (fun K hK => ?_)
  go_simp
  refine hK _ _ ?_
  clear hK K
  refine anyL_one (i := 8) (Kp.alloc [] _ _).drew rfl (by kernel_rfl) (fun K hK => ?_)
  rw [if_pos (by rfl)]
  refine Lib.wp_append_run _ (Operand.tmp 99) (Operand.tmp 105) 32 32 rfl _ _ rfl rfl _ _ Hrun4.out ?_
  refine hK _ _ ?_
  clear hK K Hrun4
  refine anyL_one (i := 16) HK4.out rfl (by kernel_rfl) (fun K hK => ?_)
  rw [if_pos (by rfl)]
  refine Lib.wp_append_run _ (Operand.tmp 106) (Operand.tmp 113) 32 32 rfl _ _ rfl rfl _ _ Hrun5.out ?_
  refine hK _ _ ?_
  clear hK K Hrun5 HK4
  obtain ⟨f0, f1, f2⟩ := HC.out w5 HK5.out
  refine anyL_one (i := 17) HK5.out rfl (by kernel_rfl) (fun K hK => ?_)
  go_simp
  refine hK _ _ ?_
  clear hK K
  refine anyL_one (i := 18) HK5.out rfl (by kernel_rfl) (fun K hK => ?_)
  go_simp
  refine hK _ _ ?_
  clear hK K
  refine anyL_one (i := 19) HK5.out rfl (by kernel_rfl) (fun K hK => ?_)
  go_simp
  refine hK _ _ ?_
  clear hK K
  refine anyL_done (by kernel_rfl) (by kernel_rfl) ?_
  go_simp
  clear f0 f1 f2 hs1 hs2 HC
  have Q : Hid (StepPost B w wb hp hd base cells S (.returned (.bool true)) (w5.setCell ⟨wb, 3, none⟩ (.slice p5 (qs.length - 1) c5))) := by
    obtain ⟨m1, m2⟩ := HM.out.putQ HK5.out HO5.out.1 HO5.out.2
    obtain ⟨hJ9, hB9⟩ := HJ.out.drop j m1 (HK7.out.trans m2) HF7.out (fun k e => Nat.le_trans HK7.out.size (HO5.out.2 k e))
    exact StepPost.mk _ _ _ _ _ _ _ _ _ _ _ _ _ _ (hJ9.up hS) (HB.out.trans hB9)
  clear HO5 HK5 HR HM HK7 HF7 HJ HB
  go_wp2_with fail
  exact bodyPost_ret (by simp [results, Try.results5, go_sem]) rfl Q.out
end
end Go.Proofs.Ytfeopoamednidaa
