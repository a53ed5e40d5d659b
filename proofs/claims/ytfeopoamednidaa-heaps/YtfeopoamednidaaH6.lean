/-
  The layer heap: the two sides' roots; one root more.
-/
import Derived.Test.YtfeopoamednidaaH5
import Derived.Test.YtfeopoamednidaaRegL
import Derived.Lib.AppendZeros
namespace Go.Proofs.Ytfeopoamednidaa
open Go.RowKit Go.Deep
/-- The roots of both sides. -/
structure MS (w : World) (wb : Nat) (hv : Value) (hb base : Nat) (vp : Value) (ps : List Cl) (vq : Value) (qs : List Cl) : Prop where
  box : w.heap[wb]? = some (.cells #[hv, .pointer (some ⟨hb, 0, none⟩), vp, vq] 34)
  p : OwnC w base vp ps
  q : OwnC w base vq qs
  dj : ∀ k, vp.ownBlock = some k → vq.ownBlock ≠ some k
  lt : wb < base
  le : base ≤ w.heap.size
theorem OwnC.block {w : World} {base : Nat} {v : Value} {l : List Cl} (h : OwnC w base v l) : ∀ k, v.ownBlock = some k → base ≤ k ∧ k < w.heap.size := by
  intro k hk
  rcases h.2 with ⟨rfl, h0⟩ | ⟨g, cap, cur, rfl, h1, h2, _⟩
  · cases hk
  · simp [Value.ownBlock] at hk
    subst hk
    exact ⟨h1, (Array.getElem?_eq_some_iff.1 h2).1⟩
theorem OwnC.keep {w w' : World} {base : Nat} {v : Value} {l : List Cl} (h : OwnC w base v l) (hk : ∀ k, v.ownBlock = some k → w'.heap[k]? = w.heap[k]?) : OwnC w' base v l := by
  obtain ⟨q1, q2⟩ := h
  refine ⟨q1, ?_⟩
  rcases q2 with q2 | ⟨g, cap, cur, qv, qg, qh, qq⟩
  · exact .inl q2
  · exact .inr ⟨g, cap, cur, qv, qg, (hk g (by rw [qv]; rfl)).trans qh, qq⟩
theorem MS.kp {X : List Nat} {w w' : World} {wb : Nat} {hv : Value} {hb base : Nat} {vp : Value} {ps : List Cl} {vq : Value} {qs : List Cl} (h : MS w wb hv hb base vp ps vq qs) (hk : Kp X w w') (hX : ∀ x ∈ X, x ≠ wb ∧ vp.ownBlock ≠ some x ∧ vq.ownBlock ≠ some x) : MS w' wb hv hb base vp ps vq qs :=
  ⟨(hk.block wb (Array.getElem?_eq_some_iff.1 h.box).1 (fun hx => (hX _ hx).1 rfl)).trans h.box, h.p.keep (fun k e => hk.block k (h.p.block k e).2 (fun hx => (hX _ hx).2.1 e)), h.q.keep (fun k e => hk.block k (h.q.block k e).2 (fun hx => (hX _ hx).2.2 e)), h.dj, h.lt, Nat.le_trans h.le hk.size⟩
theorem setCell42 {w : World} {b : Nat} {x y z u v : Value} {t : TypeId} (h : w.heap[b]? = some (.cells #[x, y, z, u] t)) : (w.setCell ⟨b, 2, none⟩ v).heap[b]? = some (.cells #[x, y, v, u] t) := by
  simp [World.setCell, Array.getElem?_modify, h]
theorem setCell43 {w : World} {b : Nat} {x y z u v : Value} {t : TypeId} (h : w.heap[b]? = some (.cells #[x, y, z, u] t)) : (w.setCell ⟨b, 3, none⟩ v).heap[b]? = some (.cells #[x, y, z, v] t) := by
  simp [World.setCell, Array.getElem?_modify, h]
/-- The program's roots grew. -/
theorem MS.setP {w w1 : World} {wb : Nat} {hv : Value} {hb base : Nat} {vp : Value} {ps : List Cl} {vq : Value} {qs : List Cl} (h : MS w wb hv hb base vp ps vq qs) {v1 : Value} {l : List Cl} (ho : OwnC w1 base v1 l) (hg : w.grownBy w1 vp.ownBlock) (hv1 : v1.ownBlock = vp.ownBlock ∨ v1.ownBlock = some w.heap.size) :
    MS (w1.setCell ⟨wb, 2, none⟩ v1) wb hv hb base v1 l vq qs ∧ Kp (wb :: vp.ownBlock.toList) w (w1.setCell ⟨wb, 2, none⟩ v1) := by
  have hk : Kp vp.ownBlock.toList w w1 := Kp.of_grown hg (by intro k hk; simp [hk])
  have hset : Kp [wb] w1 (w1.setCell ⟨wb, 2, none⟩ v1) := Kp.setCell _ _ (by simp) _
  have hne : ∀ k, vp.ownBlock = some k → wb ≠ k := fun k e => by have := (h.p.block k e).1; have := h.lt; omega
  have hbx := (hk.block wb (Array.getElem?_eq_some_iff.1 h.box).1 (by simp; exact fun e => hne wb e rfl)).trans h.box
  refine ⟨⟨setCell42 hbx, ho.keep (fun k e => hset.block k (ho.block k e).2 (by simp; have := (ho.block k e).1; have := h.lt; omega)), ?_, ?_, h.lt, Nat.le_trans h.le (Nat.le_trans hk.size hset.size)⟩, Kp.trans (hk.mono (by simp; exact fun a e => Or.inr e)) (hset.mono (by simp))⟩
  · have hq1 : OwnC w1 base vq qs := h.q.keep (fun k e => hk.block k (h.q.block k e).2 (by simp; exact fun e' => h.dj k e' e))
    exact hq1.keep (fun k e => hset.block k (hq1.block k e).2 (by simp; have := (hq1.block k e).1; have := h.lt; omega))
  · intro k e e'
    rcases hv1 with hv1 | hv1
    · exact h.dj k (hv1 ▸ e) e'
    · have := (h.q.block k e').2
      rw [hv1] at e
      cases e
      omega
/-- The document's roots grew. -/
theorem MS.setQ {w w1 : World} {wb : Nat} {hv : Value} {hb base : Nat} {vp : Value} {ps : List Cl} {vq : Value} {qs : List Cl} (h : MS w wb hv hb base vp ps vq qs) {v1 : Value} {l : List Cl} (ho : OwnC w1 base v1 l) (hg : w.grownBy w1 vq.ownBlock) (hv1 : v1.ownBlock = vq.ownBlock ∨ v1.ownBlock = some w.heap.size) :
    MS (w1.setCell ⟨wb, 3, none⟩ v1) wb hv hb base vp ps v1 l ∧ Kp (wb :: vq.ownBlock.toList) w (w1.setCell ⟨wb, 3, none⟩ v1) := by
  have hk : Kp vq.ownBlock.toList w w1 := Kp.of_grown hg (by intro k hk; simp [hk])
  have hset : Kp [wb] w1 (w1.setCell ⟨wb, 3, none⟩ v1) := Kp.setCell _ _ (by simp) _
  have hne : ∀ k, vq.ownBlock = some k → wb ≠ k := fun k e => by have := (h.q.block k e).1; have := h.lt; omega
  have hbx := (hk.block wb (Array.getElem?_eq_some_iff.1 h.box).1 (by simp; exact fun e => hne wb e rfl)).trans h.box
  refine ⟨⟨setCell43 hbx, ?_, ho.keep (fun k e => hset.block k (ho.block k e).2 (by simp; have := (ho.block k e).1; have := h.lt; omega)), ?_, h.lt, Nat.le_trans h.le (Nat.le_trans hk.size hset.size)⟩, Kp.trans (hk.mono (by simp; exact fun a e => Or.inr e)) (hset.mono (by simp))⟩
  · have hq1 : OwnC w1 base vp ps := h.p.keep (fun k e => hk.block k (h.p.block k e).2 (by simp; exact fun e' => h.dj k e e'))
    exact hq1.keep (fun k e => hset.block k (hq1.block k e).2 (by simp; have := (hq1.block k e).1; have := h.lt; omega))
  · intro k e e'
    rcases hv1 with hv1 | hv1
    · exact h.dj k e (hv1 ▸ e')
    · have := (h.p.block k e).2
      rw [hv1] at e'
      cases e'
      omega
theorem RowC.one (w : World) (c : Cl) : RowC (w.alloc (.cells #[.bool c.p, .int .i64 c.n] 50)) (some ⟨w.heap.size, 0, none⟩) [c] := by
  have h := alloc_get w (.cells #[.bool c.p, .int .i64 c.n] 50)
  refine ⟨by simp [maxLen], fun i hi => ⟨w.heap.size, 0, rfl, ?_, ?_⟩⟩
  · obtain rfl : i = 0 := by simpa using hi
    simp only [World.cell?, h]
    rfl
  · obtain rfl : i = 0 := by simpa using hi
    simp only [World.cell?, h]
    rfl
inductive MorePost (w : World) (wb : Nat) (hv : Value) (hb base : Nat) (vp : Value) (ps : List Cl) (vq : Value) (qs : List Cl) (e : Ending) (w' : World) : Prop
  | mk (vp' vq' : Value) (he : e = .returned (.tuple #[])) (hs : MS w' wb hv hb base vp' ps vq' qs) (hk : Kp (wb :: (vp.ownBlock.toList ++ vq.ownBlock.toList)) w w') (hp : vp'.ownBlock = vp.ownBlock ∨ ∃ g, vp'.ownBlock = some g ∧ w.heap.size ≤ g) (hq : vq'.ownBlock = vq.ownBlock ∨ ∃ g, vq'.ownBlock = some g ∧ w.heap.size ≤ g) : MorePost w wb hv hb base vp ps vq qs e w'
section
set_option maxHeartbeats 8000000
set_option maxRecDepth 100000
theorem more_any (w : World) (wb : Nat) (hv : Value) (hb : Nat) (base : Nat) (p : Option Addr) (cp : Nat) (ps : List Cl) (q : Option Addr) (cq : Nat) (qs : List Cl) (hS : MS w wb hv hb base (.slice p ps.length cp) ps (.slice q qs.length cq) qs) (hlp : (ps.length + 1) * 16 ≤ 140737488355328) (hlq : (qs.length + 1) * 16 ≤ 140737488355328) (a b : Cl) :
    Calls Try.prog 15 #[.pointer (some ⟨wb, 0, none⟩), a.val, b.val] w fun e w' => MorePost w wb hv hb base (.slice p ps.length cp) (ps ++ [a]) (.slice q qs.length cq) (qs ++ [b]) e w' := by
  have hlt : wb < w.heap.size := (Array.getElem?_eq_some_iff.1 hS.box).1
  obtain ⟨ap, an⟩ := a
  obtain ⟨bp, bn⟩ := b
  simp only [Cl.val]
  have HK0 : Hid (Kp [] w ((w.alloc (.cells #[.bool ap, .int .i64 an] 50)).alloc (.cells #[.bool bp, .int .i64 bn] 50))) := (Kp.alloc _ _ _).trans (Kp.alloc _ _ _)
  have HS : Hid (MS ((w.alloc (.cells #[.bool ap, .int .i64 an] 50)).alloc (.cells #[.bool bp, .int .i64 bn] 50)) wb hv hb base (.slice p ps.length cp) ps (.slice q qs.length cq) qs) := hS.kp HK0.out (by simp)
  have HA : Hid (((w.alloc (.cells #[.bool ap, .int .i64 an] 50)).alloc (.cells #[.bool bp, .int .i64 bn] 50)).heap[w.heap.size]? = some (.cells #[.bool ap, .int .i64 an] 50)) := ((Kp.alloc [] (w.alloc (.cells #[.bool ap, .int .i64 an] 50)) _).block _ (by simp) (by simp)).trans (alloc_get _ _)
  have HB : Hid (((w.alloc (.cells #[.bool ap, .int .i64 an] 50)).alloc (.cells #[.bool bp, .int .i64 bn] 50)).heap[w.heap.size + 1]? = some (.cells #[.bool bp, .int .i64 bn] 50)) := by
    unfold Hid
    rw [show w.heap.size + 1 = (w.alloc (.cells #[.bool ap, .int .i64 an] 50)).heap.size from by simp]
    exact alloc_get _ _
  have hBS : w.heap.size + 1 < ((w.alloc (.cells #[.bool ap, .int .i64 an] 50)).alloc (.cells #[.bool bp, .int .i64 bn] 50)).heap.size := (Array.getElem?_eq_some_iff.1 HB.out).1
  have HNA : Hid (∀ k, (Value.slice p ps.length cp).ownBlock = some k → k < w.heap.size) := fun k e => (hS.p.block k e).2
  have HNB : Hid (∀ k, (Value.slice q qs.length cq).ownBlock = some k → k < w.heap.size) := fun k e => (hS.q.block k e).2
  clear hS
  have HBS : Hid (w.heap.size + 1 < ((w.alloc (.cells #[.bool ap, .int .i64 an] 50)).alloc (.cells #[.bool bp, .int .i64 bn] 50)).heap.size) := hBS
  clear hBS
  go_enter Try.func15, Try.ntmps15
  go_upto_region 1 with fail
  generalize ((w.alloc (.cells #[.bool ap, .int .i64 an] 50)).alloc (.cells #[.bool bp, .int .i64 bn] 50)) = w2 at HK0 HS HA HB HBS ⊢
  have Hbox : Hid (∀ wx, Kp (Value.slice p ps.length cp).ownBlock.toList w2 wx → wx.cell? ⟨wb, 2, none⟩ = some (Value.slice p ps.length cp) ∧ wb < wx.heap.size ∧ wx.cell? ⟨w.heap.size, 0, none⟩ = some (.bool ap) ∧ wx.cell? ⟨w.heap.size, 1, none⟩ = some (.int .i64 an) ∧ w.heap.size < wx.heap.size) := fun wx hx => by
    have h1 := (hx.block wb (Array.getElem?_eq_some_iff.1 HS.out.box).1 (by simp; exact fun e => by have := (HS.out.p.block wb e).1; have := HS.out.lt; omega)).trans HS.out.box
    have h2 := (hx.block w.heap.size (Array.getElem?_eq_some_iff.1 HA.out).1 (by simp; exact fun e => by have := HNA.out _ e; omega)).trans HA.out
    exact ⟨by simp [World.cell?, h1], (Array.getElem?_eq_some_iff.1 h1).1, by simp [World.cell?, h2], by simp [World.cell?, h2], (Array.getElem?_eq_some_iff.1 h2).1⟩
  refine region_last 10 (C := fun wx => Kp (Value.slice p ps.length cp).ownBlock.toList w2 wx) (by kernel_rfl) ?_
  refine anyL_read (i := 0) rfl (by kernel_rfl) (by kernel_rfl) (by kernel_rfl) (by kernel_rfl) (fun _ _ _ _ h => h) ?_
  apply Exists.intro
  refine ⟨Or.inl ⟨by rfl, fun wx hwx => ?_⟩, ?_⟩
  (go_simp; first | done | with_reducible rfl)
  refine anyL_read (i := 1) rfl (by kernel_rfl) (by kernel_rfl) (by kernel_rfl) (by kernel_rfl) (fun _ _ _ _ h => h) ?_
  apply Exists.intro
  refine ⟨Or.inl ⟨by rfl, fun wx hwx => ?_⟩, ?_⟩
  (go_simp; first | done | with_reducible rfl)
  refine anyL_read (i := 2) rfl (by kernel_rfl) (by kernel_rfl) (by kernel_rfl) (by kernel_rfl) (fun _ _ _ _ h => h) ?_
  apply Exists.intro
  refine ⟨Or.inl ⟨by rfl, fun wx hwx => ?_⟩, ?_⟩
  (go_simp; first | done | with_reducible rfl)
  refine anyL_read (i := 3) rfl (by kernel_rfl) (by kernel_rfl) (by kernel_rfl) (by kernel_rfl) (fun _ _ _ _ h => h) ?_
  apply Exists.intro
  refine ⟨Or.inl ⟨by rfl, fun wx hwx => ?_⟩, ?_⟩
  (go_simp; first | done | with_reducible rfl)
  refine anyL_read (i := 4) rfl (by kernel_rfl) (by kernel_rfl) (by kernel_rfl) (by kernel_rfl) (fun _ _ _ _ h => h) ?_
  apply Exists.intro
  refine ⟨Or.inl ⟨by rfl, fun wx hwx => ?_⟩, ?_⟩
  (obtain ⟨f0, f1, f2, f3, f4⟩ := Hbox.out wx hwx; go_simp; first | done | with_reducible rfl)
  refine anyL_read (i := 5) rfl (by kernel_rfl) (by kernel_rfl) (by kernel_rfl) (by kernel_rfl) (fun _ _ _ _ h => h) ?_
  apply Exists.intro
  refine ⟨Or.inl ⟨by rfl, fun wx hwx => ?_⟩, ?_⟩
  (obtain ⟨f0, f1, f2, f3, f4⟩ := Hbox.out wx hwx; go_simp; first | done | with_reducible rfl)
  refine anyL_one (i := 6) ((Kp.refl _ _).drew) rfl (by kernel_rfl) (fun K hK => ?_)
  go_simp
  refine hK _ _ ?_
  clear hK K
  have HS3 : Hid (MS (w2.alloc (.cells #[.bool ap, .int .i64 an] 50)).drew wb hv hb base (.slice p ps.length cp) ps (.slice q qs.length cq) qs) := HS.out.kp (Kp.alloc [] _ _).drew (by simp)
  have HR3 : Hid (RowC (w2.alloc (.cells #[.bool ap, .int .i64 an] 50)).drew (some ⟨w2.heap.size, 0, none⟩) [⟨ap, an⟩]) := (RowC.one w2 ⟨ap, an⟩).kp (Kp.refl [] _).drew (by simp)
  have HK3 : Hid (Kp [] w2 (w2.alloc (.cells #[.bool ap, .int .i64 an] 50)).drew) := (Kp.alloc [] _ _).drew
  generalize (w2.alloc (.cells #[.bool ap, .int .i64 an] 50)).drew = w3 at HS3 HR3 HK3 ⊢
  obtain ⟨v4, w4, hrun, ho4, hg4, hv4⟩ := run_append_cells HS3.out.p HR3.out (cap := 1) (fun h => by cases h) (by simpa using hlp) HS3.out.le 32
  have HP4 : Hid (v4.ownBlock = (Value.slice p ps.length cp).ownBlock ∨ ∃ g, v4.ownBlock = some g ∧ w.heap.size ≤ g) := hv4.imp id (fun h => ⟨_, h, Nat.le_trans HK0.out.size HK3.out.size⟩)
  have HK4 : Hid (Kp (Value.slice p ps.length cp).ownBlock.toList w2 w4) := (HK3.out.mono (by simp)).trans (Kp.of_grown hg4 (by intro k hk; simp [hk]))
  refine anyL_one (i := 7) (HK3.out.mono (by simp)) rfl (by kernel_rfl) (fun K hK => ?_)
  rw [if_pos (by rfl)]
  refine Lib.wp_append_run _ (Operand.tmp 10) (Operand.tmp 12) 32 32 rfl _ _ rfl rfl _ _ hrun ?_
  refine hK _ _ ?_
  clear hK K hrun
  have hS5 := HS3.out.setP ho4 hg4 hv4
  have HS5 : Hid _ := hS5
  obtain ⟨f0, f1, f2, f3, f4⟩ := Hbox.out w4 HK4.out
  have f5 : w4.frozen? ⟨wb, 2, none⟩ = false := by
    have h1 := (HK4.out.block wb (Array.getElem?_eq_some_iff.1 HS.out.box).1 (by simp; exact fun e => by have := (HS.out.p.block wb e).1; have := HS.out.lt; omega)).trans HS.out.box
    simp [World.frozen?, h1]
  obtain ⟨p4, c4, hv4', hc4, hrw4⟩ := OwnC.at ho4 (by unfold maxLen; simp; omega)
  subst hv4'
  clear hS5 ho4 hg4 hv4 hc4 hrw4 Hbox HR3
  simp only [List.length_append, List.length_cons, List.length_nil, Nat.zero_add] at HS5
  refine anyL_one (i := 8) HK4.out rfl (by kernel_rfl) (fun K hK => ?_)
  go_simp
  refine hK _ _ ?_
  clear hK K
  refine anyL_one (i := 9) HK4.out rfl (by kernel_rfl) (fun K hK => ?_)
  go_simp
  refine hK _ _ ?_
  clear hK K
  refine anyL_one (i := 10) HK4.out rfl (by kernel_rfl) (fun K hK => ?_)
  go_simp
  refine hK _ _ ?_
  clear hK K
  refine anyL_done (by kernel_rfl) (by kernel_rfl) ?_
  go_simp
  clear f0 f1 f2 f3 f4 f5
  have HK5 : Hid (Kp (wb :: (Value.slice p ps.length cp).ownBlock.toList) w2 (w4.setCell ⟨wb, 2, none⟩ (.slice p4 (ps.length + 1) c4))) := (HK3.out.mono (by simp)).trans HS5.out.2
  have HS : Hid (MS (w4.setCell ⟨wb, 2, none⟩ (.slice p4 (ps.length + 1) c4)) wb hv hb base (.slice p4 (ps.length + 1) c4) (ps ++ [⟨ap, an⟩]) (.slice q qs.length cq) qs) := HS5.out.1
  have HB5 : Hid (((w4.setCell ⟨wb, 2, none⟩ (.slice p4 (ps.length + 1) c4))).heap[w.heap.size + 1]? = some (.cells #[.bool bp, .int .i64 bn] 50)) := (HK5.out.block _ HBS.out (by simp; exact ⟨by omega, fun e => by have := HNA.out _ e; omega⟩)).trans HB.out
  clear HS5 HK3 HS3 HK4
  generalize (w4.setCell ⟨wb, 2, none⟩ (.slice p4 (ps.length + 1) c4)) = w5 at HK5 HS HB5 ⊢
  go_upto_region 2 with fail
  have Hbox : Hid (∀ wx, Kp (Value.slice q qs.length cq).ownBlock.toList w5 wx → wx.cell? ⟨wb, 3, none⟩ = some (Value.slice q qs.length cq) ∧ wb < wx.heap.size ∧ wx.cell? ⟨w.heap.size + 1, 0, none⟩ = some (.bool bp) ∧ wx.cell? ⟨w.heap.size + 1, 1, none⟩ = some (.int .i64 bn) ∧ w.heap.size + 1 < wx.heap.size) := fun wx hx => by
    have h1 := (hx.block wb (Array.getElem?_eq_some_iff.1 HS.out.box).1 (by simp; exact fun e => by have := (HS.out.q.block wb e).1; have := HS.out.lt; omega)).trans HS.out.box
    have h2 := (hx.block (w.heap.size + 1) (Array.getElem?_eq_some_iff.1 HB5.out).1 (by simp; exact fun e => by have := HNB.out _ e; omega)).trans HB5.out
    exact ⟨by simp [World.cell?, h1], (Array.getElem?_eq_some_iff.1 h1).1, by simp [World.cell?, h2], by simp [World.cell?, h2], (Array.getElem?_eq_some_iff.1 h2).1⟩
  refine region_last 10 (C := fun wx => Kp (Value.slice q qs.length cq).ownBlock.toList w5 wx) (by kernel_rfl) ?_
  refine anyL_read (i := 0) rfl (by kernel_rfl) (by kernel_rfl) (by kernel_rfl) (by kernel_rfl) (fun _ _ _ _ h => h) ?_
  apply Exists.intro
  refine ⟨Or.inl ⟨by rfl, fun wx hwx => ?_⟩, ?_⟩
  (go_simp; first | done | with_reducible rfl)
  refine anyL_read (i := 1) rfl (by kernel_rfl) (by kernel_rfl) (by kernel_rfl) (by kernel_rfl) (fun _ _ _ _ h => h) ?_
  apply Exists.intro
  refine ⟨Or.inl ⟨by rfl, fun wx hwx => ?_⟩, ?_⟩
  (go_simp; first | done | with_reducible rfl)
  refine anyL_read (i := 2) rfl (by kernel_rfl) (by kernel_rfl) (by kernel_rfl) (by kernel_rfl) (fun _ _ _ _ h => h) ?_
  apply Exists.intro
  refine ⟨Or.inl ⟨by rfl, fun wx hwx => ?_⟩, ?_⟩
  (go_simp; first | done | with_reducible rfl)
  refine anyL_read (i := 3) rfl (by kernel_rfl) (by kernel_rfl) (by kernel_rfl) (by kernel_rfl) (fun _ _ _ _ h => h) ?_
  apply Exists.intro
  refine ⟨Or.inl ⟨by rfl, fun wx hwx => ?_⟩, ?_⟩
  (go_simp; first | done | with_reducible rfl)
  refine anyL_read (i := 4) rfl (by kernel_rfl) (by kernel_rfl) (by kernel_rfl) (by kernel_rfl) (fun _ _ _ _ h => h) ?_
  apply Exists.intro
  refine ⟨Or.inl ⟨by rfl, fun wx hwx => ?_⟩, ?_⟩
  (obtain ⟨f0, f1, f2, f3, f4⟩ := Hbox.out wx hwx; go_simp; first | done | with_reducible rfl)
  refine anyL_read (i := 5) rfl (by kernel_rfl) (by kernel_rfl) (by kernel_rfl) (by kernel_rfl) (fun _ _ _ _ h => h) ?_
  apply Exists.intro
  refine ⟨Or.inl ⟨by rfl, fun wx hwx => ?_⟩, ?_⟩
  (obtain ⟨f0, f1, f2, f3, f4⟩ := Hbox.out wx hwx; go_simp; first | done | with_reducible rfl)
  refine anyL_one (i := 6) ((Kp.refl _ _).drew) rfl (by kernel_rfl) (fun K hK => ?_)
  go_simp
  refine hK _ _ ?_
  clear hK K
  have HS3 : Hid (MS (w5.alloc (.cells #[.bool bp, .int .i64 bn] 50)).drew wb hv hb base (.slice p4 (ps.length + 1) c4) (ps ++ [⟨ap, an⟩]) (.slice q qs.length cq) qs) := HS.out.kp (Kp.alloc [] _ _).drew (by simp)
  have HR3 : Hid (RowC (w5.alloc (.cells #[.bool bp, .int .i64 bn] 50)).drew (some ⟨w5.heap.size, 0, none⟩) [⟨bp, bn⟩]) := (RowC.one w5 ⟨bp, bn⟩).kp (Kp.refl [] _).drew (by simp)
  have HK3 : Hid (Kp [] w5 (w5.alloc (.cells #[.bool bp, .int .i64 bn] 50)).drew) := (Kp.alloc [] _ _).drew
  generalize (w5.alloc (.cells #[.bool bp, .int .i64 bn] 50)).drew = w6 at HS3 HR3 HK3 ⊢
  obtain ⟨v4, w7, hrun, ho4, hg4, hv4⟩ := run_append_cells HS3.out.q HR3.out (cap := 1) (fun h => by cases h) (by simpa using hlq) HS3.out.le 32
  have HQ4 : Hid (v4.ownBlock = (Value.slice q qs.length cq).ownBlock ∨ ∃ g, v4.ownBlock = some g ∧ w.heap.size ≤ g) := hv4.imp id (fun h => ⟨_, h, Nat.le_trans (Nat.le_trans HK0.out.size HK5.out.size) HK3.out.size⟩)
  have HK4 : Hid (Kp (Value.slice q qs.length cq).ownBlock.toList w5 w7) := (HK3.out.mono (by simp)).trans (Kp.of_grown hg4 (by intro k hk; simp [hk]))
  refine anyL_one (i := 7) (HK3.out.mono (by simp)) rfl (by kernel_rfl) (fun K hK => ?_)
  rw [if_pos (by rfl)]
  refine Lib.wp_append_run _ (Operand.tmp 20) (Operand.tmp 22) 32 32 rfl _ _ rfl rfl _ _ hrun ?_
  refine hK _ _ ?_
  clear hK K hrun
  have hS5 := HS3.out.setQ ho4 hg4 hv4
  have HS8 : Hid _ := hS5
  obtain ⟨f0, f1, f2, f3, f4⟩ := Hbox.out w7 HK4.out
  have f5 : w7.frozen? ⟨wb, 3, none⟩ = false := by
    have h1 := (HK4.out.block wb (Array.getElem?_eq_some_iff.1 HS.out.box).1 (by simp; exact fun e => by have := (HS.out.q.block wb e).1; have := HS.out.lt; omega)).trans HS.out.box
    simp [World.frozen?, h1]
  obtain ⟨p7, c7, hv4', hc4, hrw4⟩ := OwnC.at ho4 (by unfold maxLen; simp; omega)
  subst hv4'
  clear hS5 ho4 hg4 hv4 hc4 hrw4 Hbox HR3
  simp only [List.length_append, List.length_cons, List.length_nil, Nat.zero_add] at HS8
  refine anyL_one (i := 8) HK4.out rfl (by kernel_rfl) (fun K hK => ?_)
  go_simp
  refine hK _ _ ?_
  clear hK K
  refine anyL_one (i := 9) HK4.out rfl (by kernel_rfl) (fun K hK => ?_)
  go_simp
  refine hK _ _ ?_
  clear hK K
  refine anyL_one (i := 10) HK4.out rfl (by kernel_rfl) (fun K hK => ?_)
  go_simp
  refine hK _ _ ?_
  clear hK K
  refine anyL_done (by kernel_rfl) (by kernel_rfl) ?_
  go_simp
  clear f0 f1 f2 f3 f4 f5
  have Q : Hid (MorePost w wb hv hb base (.slice p ps.length cp) (ps ++ [⟨ap, an⟩]) (.slice q qs.length cq) (qs ++ [⟨bp, bn⟩]) (.returned (.tuple #[])) (w7.setCell ⟨wb, 3, none⟩ (.slice p7 (qs.length + 1) c7))) :=
    MorePost.mk _ _ rfl HS8.out.1 (((HK0.out.mono (by simp)).trans (HK5.out.mono (by simp; exact fun a e => Or.inr (Or.inl e)))).trans ((HK3.out.mono (by simp)).trans (HS8.out.2.mono (by simp; exact fun a e => Or.inr (Or.inr e))))) (by have := HP4.out; simp only [List.length_append, List.length_cons, List.length_nil, Nat.zero_add] at this; exact this) (by have := HQ4.out; simp only [List.length_append, List.length_cons, List.length_nil, Nat.zero_add] at this; exact this)
  clear HS8 HK3 HS3 HK4 HS HB5 HK5
  go_wp2
  exact bodyPost_ret (by simp [results, Try.results15, go_sem]) rfl Q.out
end
end Go.Proofs.Ytfeopoamednidaa
