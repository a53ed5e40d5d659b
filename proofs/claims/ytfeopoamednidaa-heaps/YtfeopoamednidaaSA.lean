/-
  The law's step: Make as it stands.
-/
import Derived.Test.YtfeopoamednidaaN7
import Derived.Test.YtfeopoamednidaaN9
namespace Go.Proofs.Ytfeopoamednidaa
open Go.RowKit Go.Deep Go.IntWalk
section
set_option maxHeartbeats 8000000
set_option maxRecDepth 100000
theorem step_wide (B : Nat) (w : World) (wb hp hd base : Nat) (cells : Int) (S : Nat) (first : Int) (v : Value) (ts : List Th) (vp : Value) (ps : List Cl) (vq : Value) (qs : List Cl) (next : Int) (D : Doc) (mp : Option Nat) (q : Int → Option Addr) (ks : List Int) (R : Int → Int → Prop) (h : Jt B w wb hp hd base cells S first v ts vp ps vq qs next D mp q ks R) (hS : S + 1 ≤ 3000000000000) (oa ob oc : Int) (pl : Option Addr) (ls : List Int) (lc : Nat) (hls : RowI B w pl ls) :
    Calls Try.prog 5 #[.pointer (some ⟨wb, 0, none⟩), .agg #[.int .i64 6, .int .i64 oa, .int .i64 ob, .int .i64 oc, .slice pl ls.length lc]] w fun e w' => StepPost B w wb hp hd base cells S e w' := by
  have hk1 : Kp [] w (w.alloc (.cells #[.int .i64 6, .int .i64 oa, .int .i64 ob, .int .i64 oc, .slice pl ls.length lc] 38)) := Kp.alloc _ _ _
  have hbx : (w.alloc (.cells #[.int .i64 6, .int .i64 oa, .int .i64 ob, .int .i64 oc, .slice pl ls.length lc] 38)).heap[w.heap.size]? = some (.cells #[.int .i64 6, .int .i64 oa, .int .i64 ob, .int .i64 oc, .slice pl ls.length lc] 38) := alloc_get w _
  have hB : Below B w (w.alloc (.cells #[.int .i64 6, .int .i64 oa, .int .i64 ob, .int .i64 oc, .slice pl ls.length lc] 38)) := hk1.below (Nat.le_of_lt h.lt) (by simp)
  have Hmake : Hid (Calls Try.prog 7 #[.pointer (some ⟨wb, 0, none⟩), .int .i64 oa, .int .i64 ob, .int .i64 oc, .slice pl ls.length lc] (w.alloc (.cells #[.int .i64 6, .int .i64 oa, .int .i64 ob, .int .i64 oc, .slice pl ls.length lc] 38)) fun e w' => StepPost B w wb hp hd base cells S e w' ∧ e = .returned (.bool true)) :=
    Calls.mono (make7 B _ wb hp hd base cells S first v ts vp ps vq qs next D mp q ks R (h.kp hk1) hS oa ob oc pl ls lc (hls.below hB)) (fun e w' g => by
      obtain ⟨w', a1, a2, a3, a4, a5, a6, a7, a8, a9, a10, a11, a12, a13, hJ, hb⟩ := g
      exact ⟨StepPost.mk _ _ _ _ _ _ _ _ _ _ _ _ _ _ hJ (hB.trans hb), rfl⟩)
  have z0 : (w.alloc (.cells #[.int .i64 6, .int .i64 oa, .int .i64 ob, .int .i64 oc, .slice pl ls.length lc] 38)).cell? ⟨w.heap.size, 0, none⟩ = some (.int .i64 6) := by simp only [World.cell?, hbx]; rfl
  have z1 : (w.alloc (.cells #[.int .i64 6, .int .i64 oa, .int .i64 ob, .int .i64 oc, .slice pl ls.length lc] 38)).cell? ⟨w.heap.size, 1, none⟩ = some (.int .i64 oa) := by simp only [World.cell?, hbx]; rfl
  have z2 : (w.alloc (.cells #[.int .i64 6, .int .i64 oa, .int .i64 ob, .int .i64 oc, .slice pl ls.length lc] 38)).cell? ⟨w.heap.size, 2, none⟩ = some (.int .i64 ob) := by simp only [World.cell?, hbx]; rfl
  have z3 : (w.alloc (.cells #[.int .i64 6, .int .i64 oa, .int .i64 ob, .int .i64 oc, .slice pl ls.length lc] 38)).cell? ⟨w.heap.size, 3, none⟩ = some (.int .i64 oc) := by simp only [World.cell?, hbx]; rfl
  have z4 : (w.alloc (.cells #[.int .i64 6, .int .i64 oa, .int .i64 ob, .int .i64 oc, .slice pl ls.length lc] 38)).cell? ⟨w.heap.size, 4, none⟩ = some (.slice pl ls.length lc) := by simp only [World.cell?, hbx]; rfl
  clear h hls hk1 hB hbx
  go_enter Try.func5, Try.ntmps5
  go_wp2_with fail
  refine Calls.mono Hmake.out ?_
  rintro e w2 ⟨hst, rfl⟩
  have Hst : Hid (StepPost B w wb hp hd base cells S (.returned (.bool true)) w2) := hst
  clear hst Hmake z0 z1 z2 z3 z4
  go_wp2_with fail
  exact bodyPost_ret (by simp [results, Try.results5, go_sem]) rfl Hst.out
end
end Go.Proofs.Ytfeopoamednidaa
namespace Go.Proofs.Ytfeopoamednidaa
open Go.RowKit Go.Deep Go.IntWalk
section
variable {B : Nat} {w : World} {wb hp hd base : Nat} {cells : Int} {S : Nat} {first : Int} {v : Value} {ts : List Th} {vp : Value} {ps : List Cl} {vq : Value} {qs : List Cl} {next : Int} {D : Doc} {mp : Option Nat} {q : Int → Option Addr} {ks : List Int} {R : Int → Int → Prop}
/-- The document's Live, from the joint state. -/
theorem Jt.live (h : Jt B w wb hp hd base cells S first v ts vp ps vq qs next D mp q ks R) {qp : Option Addr} {qc : Nat} (hvq : vq = .slice qp qs.length qc) :
    Calls Try.prog 11 #[.pointer (some ⟨hd, 0, none⟩), .slice qp qs.length qc] w fun e w' => LivePost w hd cells next D q qs e w' := by
  have hql : qs.length = ps.length := h.iso.roots.len.symm
  have hpl := h.pl
  have hsl := h.sl
  have hcs := h.cs
  rw [cellsT_eq] at hcs
  have hown := h.ms.q
  rw [hvq] at hown
  obtain ⟨q2, c2, e2, _, hrow⟩ := OwnC.at hown (by unfold maxLen; omega)
  cases e2
  refine live_any w hd cells next D mp q ks h.dc qs qp qc hrow (fun e => ?_) h.wfq (fun b hb => ?_) (by omega) (by omega)
  · subst e
    rcases hown.2 with ⟨e3, h0⟩ | ⟨g, cap, cur, e3, _⟩
    · simp only [Value.slice.injEq, true_and] at e3
      exact e3
    · simp at e3
  · obtain ⟨x, hR, _⟩ := h.iso.reach' hb
    obtain ⟨t, u, _, e2, _⟩ := h.iso.things x b hR
    rw [e2]
    rfl
end
section
set_option maxHeartbeats 8000000
set_option maxRecDepth 100000
theorem step_collect (B : Nat) (w : World) (wb hp hd base : Nat) (cells : Int) (S : Nat) (first : Int) (v : Value) (ts : List Th) (vp : Value) (ps : List Cl) (vq : Value) (qs : List Cl) (next : Int) (D : Doc) (mp : Option Nat) (q : Int → Option Addr) (ks : List Int) (R : Int → Int → Prop) (h : Jt B w wb hp hd base cells S first v ts vp ps vq qs next D mp q ks R) (hS : S + 1 ≤ 3000000000000) (oa ob oc : Int) (lv : Value) :
    Calls Try.prog 5 #[.pointer (some ⟨wb, 0, none⟩), .agg #[.int .i64 5, .int .i64 oa, .int .i64 ob, .int .i64 oc, lv]] w fun e w' => StepPost B w wb hp hd base cells S e w' := by
  have hk1 : Kp [] w (w.alloc (.cells #[.int .i64 5, .int .i64 oa, .int .i64 ob, .int .i64 oc, lv] 38)) := Kp.alloc _ _ _
  have hbx : (w.alloc (.cells #[.int .i64 5, .int .i64 oa, .int .i64 ob, .int .i64 oc, lv] 38)).heap[w.heap.size]? = some (.cells #[.int .i64 5, .int .i64 oa, .int .i64 ob, .int .i64 oc, lv] 38) := alloc_get w _
  have hB : Below B w (w.alloc (.cells #[.int .i64 5, .int .i64 oa, .int .i64 ob, .int .i64 oc, lv] 38)) := hk1.below (Nat.le_of_lt h.lt) (by simp)
  have z0 : (w.alloc (.cells #[.int .i64 5, .int .i64 oa, .int .i64 ob, .int .i64 oc, lv] 38)).cell? ⟨w.heap.size, 0, none⟩ = some (.int .i64 5) := by simp only [World.cell?, hbx]; rfl
  have hJ1 := h.kp hk1
  obtain ⟨qp, qc, gq, hvq, _, _⟩ := rv_form h.ms.q
  have hfs := h.fs
  have hpl := h.pl
  clear hbx
  have hwx := hJ1.ms.box
  have HB : Hid (Below B w (w.alloc (.cells #[.int .i64 5, .int .i64 oa, .int .i64 ob, .int .i64 oc, lv] 38))) := hB
  have Hc : Hid _ := collect_any _ hp cells first v ts hJ1.hh (by omega) hJ1.cl ps hJ1.roots base vp wb _ _ _ hJ1.ms.box hJ1.ms.p (by omega)
  have HJ1 : Hid (Jt B (w.alloc (.cells #[.int .i64 5, .int .i64 oa, .int .i64 ob, .int .i64 oc, lv] 38)) wb hp hd base cells S first v ts vp ps vq qs next D mp q ks R) := hJ1
  have c0 : (w.alloc (.cells #[.int .i64 5, .int .i64 oa, .int .i64 ob, .int .i64 oc, lv] 38)).cell? ⟨wb, 0, none⟩ = some (.pointer (some ⟨hp, 0, none⟩)) := by simp only [World.cell?, hwx]; rfl
  have cl := (Array.getElem?_eq_some_iff.1 hwx).1
  clear h hk1 hB hJ1 hwx hfs hpl
  go_enter Try.func5, Try.ntmps5
  go_wp2_with fail
  generalize w.alloc (.cells #[.int .i64 5, .int .i64 oa, .int .i64 ob, .int .i64 oc, lv] 38) = w1 at *
  refine Calls.mono Hc.out ?_
  intro e w2 hC
  obtain ⟨n, rfl, hn, first1, v1, ts1, ps1, R1, hJ2, hB2⟩ := HJ1.out.collected hS hC
  clear Hc hC z0 c0 cl
  have hJd := hJ2.kp ((Kp.refl [] w2).drew)
  have Hlive : Hid (Calls Try.prog 11 #[.pointer (some ⟨hd, 0, none⟩), .slice qp qs.length qc] w2.drew fun e w' => e = .returned (.int .i64 n) ∧ StepPost B w wb hp hd base cells S (.returned (.bool true)) w') :=
    Calls.mono (hJd.live hvq) (fun e w' g => by
      obtain ⟨V, mb, he, hV, hdc, hk, hm⟩ := g
      obtain ⟨R3, hJ3, hB3⟩ := hJd.kept hV hdc hk hm
      refine ⟨?_, StepPost.mk _ _ _ _ _ _ _ _ _ _ _ _ _ _ hJ3 ((HB.out.trans hB2.drew).trans hB3)⟩
      rw [he, ← hn V hdc.nd hV])
  have hwx2 := hJ2.ms.box
  have c1 : w2.cell? ⟨wb, 1, none⟩ = some (.pointer (some ⟨hd, 0, none⟩)) := by simp only [World.cell?, hwx2]; rfl
  have c3 : w2.cell? ⟨wb, 3, none⟩ = some (.slice qp qs.length qc) := by rw [← hvq]; simp only [World.cell?, hwx2]; rfl
  have cl := (Array.getElem?_eq_some_iff.1 hwx2).1
  clear hJ2 hJd hB2 hwx2 HJ1 HB hn
  go_upto_region 8 with fail
  go_cut [4] from 50 to 60 (fun a wx => a = .bool true ∧ Hid (StepPost B w wb hp hd base cells S (.returned (.bool true)) wx))
  case first =>
    have C1 : w2.drew.cell? ⟨wb, 1, none⟩ = some (.pointer (some ⟨hd, 0, none⟩)) := c1
    have C3 : w2.drew.cell? ⟨wb, 3, none⟩ = some (.slice qp qs.length qc) := c3
    have Cl : wb < w2.drew.heap.size := cl
    go_region_with (go_at_call 11; refine Calls.mono Hlive.out ?_; rintro e9 w3 ⟨rfl, hst⟩; have HS3 : Hid (StepPost B w wb hp hd base cells S (.returned (.bool true)) w3) := hst; clear hst)
    all_goals go_simp
    all_goals go_wp2_with fail
    all_goals go_meet
    all_goals exact ⟨by simp, HS3⟩
  case rest =>
    obtain ⟨rfl, HS3⟩ := hcut
    clear Hlive c1 c3 cl
    go_wp2_with fail
    exact bodyPost_ret (by simp [results, Try.results5, go_sem]) rfl HS3.out
end
end Go.Proofs.Ytfeopoamednidaa
namespace Go.Proofs.Ytfeopoamednidaa
open Go.RowKit Go.Deep Go.IntWalk
section
set_option maxHeartbeats 8000000
set_option maxRecDepth 100000
theorem step_make (B : Nat) (w : World) (wb hp hd base : Nat) (cells : Int) (S : Nat) (first : Int) (v : Value) (ts : List Th) (vp : Value) (ps : List Cl) (vq : Value) (qs : List Cl) (next : Int) (D : Doc) (mp : Option Nat) (q : Int → Option Addr) (ks : List Int) (R : Int → Int → Prop) (h : Jt B w wb hp hd base cells S first v ts vp ps vq qs next D mp q ks R) (hS : S + 1 ≤ 3000000000000) (oa ob oc : Int) (pl : Option Addr) (ls : List Int) (lc : Nat) (hls : RowI B w pl ls) (ha : (Lit.int .i64 oa).wf = true) (hb : (Lit.int .i64 ob).wf = true) (hc : (Lit.int .i64 oc).wf = true) :
    Calls Try.prog 5 #[.pointer (some ⟨wb, 0, none⟩), .agg #[.int .i64 1, .int .i64 oa, .int .i64 ob, .int .i64 oc, .slice pl ls.length lc]] w fun e w' => StepPost B w wb hp hd base cells S e w' := by
  have hk1 : Kp [] w (w.alloc (.cells #[.int .i64 1, .int .i64 oa, .int .i64 ob, .int .i64 oc, .slice pl ls.length lc] 38)) := Kp.alloc _ _ _
  have hbx : (w.alloc (.cells #[.int .i64 1, .int .i64 oa, .int .i64 ob, .int .i64 oc, .slice pl ls.length lc] 38)).heap[w.heap.size]? = some (.cells #[.int .i64 1, .int .i64 oa, .int .i64 ob, .int .i64 oc, .slice pl ls.length lc] 38) := alloc_get w _
  have hB : Below B w (w.alloc (.cells #[.int .i64 1, .int .i64 oa, .int .i64 ob, .int .i64 oc, .slice pl ls.length lc] 38)) := hk1.below (Nat.le_of_lt h.lt) (by simp)
  have Hmake : Hid (Calls Try.prog 7 #[.pointer (some ⟨wb, 0, none⟩), .int .i64 (pickN oa 5 : Nat), .int .i64 (pickN ob 300 : Nat), .int .i64 (pickN oc 12 : Nat), .slice pl ls.length lc] (w.alloc (.cells #[.int .i64 1, .int .i64 oa, .int .i64 ob, .int .i64 oc, .slice pl ls.length lc] 38)).drew fun e w' => StepPost B w wb hp hd base cells S e w' ∧ e = .returned (.bool true)) :=
    Calls.mono (make7 B _ wb hp hd base cells S first v ts vp ps vq qs next D mp q ks R ((h.kp hk1).kp ((Kp.refl [] _).drew)) hS (pickN oa 5 : Nat) (pickN ob 300 : Nat) (pickN oc 12 : Nat) pl ls lc (hls.below hB.drew)) (fun e w' g => by
      obtain ⟨w', a1, a2, a3, a4, a5, a6, a7, a8, a9, a10, a11, a12, a13, hJ, hb⟩ := g
      exact ⟨StepPost.mk _ _ _ _ _ _ _ _ _ _ _ _ _ _ hJ (hB.drew.trans hb), rfl⟩)
  have z0 : (w.alloc (.cells #[.int .i64 1, .int .i64 oa, .int .i64 ob, .int .i64 oc, .slice pl ls.length lc] 38)).cell? ⟨w.heap.size, 0, none⟩ = some (.int .i64 1) := by simp only [World.cell?, hbx]; rfl
  have z1 : (w.alloc (.cells #[.int .i64 1, .int .i64 oa, .int .i64 ob, .int .i64 oc, .slice pl ls.length lc] 38)).cell? ⟨w.heap.size, 1, none⟩ = some (.int .i64 oa) := by simp only [World.cell?, hbx]; rfl
  have z2 : (w.alloc (.cells #[.int .i64 1, .int .i64 oa, .int .i64 ob, .int .i64 oc, .slice pl ls.length lc] 38)).cell? ⟨w.heap.size, 2, none⟩ = some (.int .i64 ob) := by simp only [World.cell?, hbx]; rfl
  have z3 : (w.alloc (.cells #[.int .i64 1, .int .i64 oa, .int .i64 ob, .int .i64 oc, .slice pl ls.length lc] 38)).cell? ⟨w.heap.size, 3, none⟩ = some (.int .i64 oc) := by simp only [World.cell?, hbx]; rfl
  have z4 : (w.alloc (.cells #[.int .i64 1, .int .i64 oa, .int .i64 ob, .int .i64 oc, .slice pl ls.length lc] 38)).cell? ⟨w.heap.size, 4, none⟩ = some (.slice pl ls.length lc) := by simp only [World.cell?, hbx]; rfl
  have zl := (Array.getElem?_eq_some_iff.1 hbx).1
  clear h hls hk1 hB hbx
  go_enter Try.func5, Try.ntmps5
  go_upto_region 3 with fail
  generalize w.alloc (.cells #[.int .i64 1, .int .i64 oa, .int .i64 ob, .int .i64 oc, .slice pl ls.length lc] 38) = w1 at *
  have P1 : Hid (∀ wx, Calls Try.prog 8 #[.int .i64 oa, .int .i64 5] wx fun e w' => e = .returned (.int .i64 (pickN oa 5 : Nat)) ∧ w' = wx) := fun wx => pick_any wx oa 5 ha (by omega) (by omega)
  have P2 : Hid (∀ wx, Calls Try.prog 8 #[.int .i64 ob, .int .i64 300] wx fun e w' => e = .returned (.int .i64 (pickN ob 300 : Nat)) ∧ w' = wx) := fun wx => pick_any wx ob 300 hb (by omega) (by omega)
  have P3 : Hid (∀ wx, Calls Try.prog 8 #[.int .i64 oc, .int .i64 12] wx fun e w' => e = .returned (.int .i64 (pickN oc 12 : Nat)) ∧ w' = wx) := fun wx => pick_any wx oc 12 hc (by omega) (by omega)
  clear ha hb hc
  have HC : Hid (w1.drew.cell? ⟨w.heap.size, 1, none⟩ = some (.int .i64 oa) ∧ w1.drew.cell? ⟨w.heap.size, 2, none⟩ = some (.int .i64 ob) ∧ w1.drew.cell? ⟨w.heap.size, 3, none⟩ = some (.int .i64 oc) ∧ w1.drew.cell? ⟨w.heap.size, 4, none⟩ = some (.slice pl ls.length lc) ∧ w.heap.size < w1.drew.heap.size) := ⟨z1, z2, z3, z4, zl⟩
  clear z0 z1 z2 z3 z4 zl
  refine region_last 12 (C := fun wx => wx.cell? ⟨w.heap.size, 1, none⟩ = some (.int .i64 oa) ∧ wx.cell? ⟨w.heap.size, 2, none⟩ = some (.int .i64 ob) ∧ wx.cell? ⟨w.heap.size, 3, none⟩ = some (.int .i64 oc) ∧ wx.cell? ⟨w.heap.size, 4, none⟩ = some (.slice pl ls.length lc) ∧ w.heap.size < wx.heap.size) (by kernel_rfl) ?_
  generalize w1.drew = wd at *
  refine anyL_readT 4 (i := 0) rfl (by kernel_rfl) (by kernel_rfl) (by kernel_rfl) (by kernel_rfl) (fun _ _ _ _ h => h) ?_
  apply Exists.intro
  refine ⟨Or.inl ⟨by rfl, fun wx hwx => ?_⟩, ?_⟩
  (obtain ⟨f1, f2, f3, f4, f5⟩ := hwx; go_simp; first | done | with_reducible rfl)
  refine anyL_readT 4 (i := 1) rfl (by kernel_rfl) (by kernel_rfl) (by kernel_rfl) (by kernel_rfl) (fun _ _ _ _ h => h) ?_
  apply Exists.intro
  refine ⟨Or.inl ⟨by rfl, fun wx hwx => ?_⟩, ?_⟩
  (obtain ⟨f1, f2, f3, f4, f5⟩ := hwx; go_simp; first | done | with_reducible rfl)
  refine anyL_readT 4 (i := 2) rfl (by kernel_rfl) (by kernel_rfl) (by kernel_rfl) (by kernel_rfl) (fun _ _ _ _ h => h) ?_
  apply Exists.intro
  refine ⟨Or.inl ⟨by rfl, fun wx hwx => ?_⟩, ?_⟩
  (obtain ⟨f1, f2, f3, f4, f5⟩ := hwx; go_simp; first | done | with_reducible rfl)
  refine anyL_readT 4 (i := 4) rfl (by kernel_rfl) (by kernel_rfl) (by kernel_rfl) (by kernel_rfl) (fun _ _ _ _ h => h) ?_
  apply Exists.intro
  refine ⟨Or.inl ⟨by rfl, fun wx hwx => ?_⟩, ?_⟩
  (obtain ⟨f1, f2, f3, f4, f5⟩ := hwx; go_simp; first | done | with_reducible rfl)
  refine anyL_readT 4 (i := 5) rfl (by kernel_rfl) (by kernel_rfl) (by kernel_rfl) (by kernel_rfl) (fun _ _ _ _ h => h) ?_
  apply Exists.intro
  refine ⟨Or.inl ⟨by rfl, fun wx hwx => ?_⟩, ?_⟩
  (obtain ⟨f1, f2, f3, f4, f5⟩ := hwx; go_simp; first | done | with_reducible rfl)
  refine anyL_readT 4 (i := 7) rfl (by kernel_rfl) (by kernel_rfl) (by kernel_rfl) (by kernel_rfl) (fun _ _ _ _ h => h) ?_
  apply Exists.intro
  refine ⟨Or.inl ⟨by rfl, fun wx hwx => ?_⟩, ?_⟩
  (obtain ⟨f1, f2, f3, f4, f5⟩ := hwx; go_simp; first | done | with_reducible rfl)
  refine anyL_readT 4 (i := 8) rfl (by kernel_rfl) (by kernel_rfl) (by kernel_rfl) (by kernel_rfl) (fun _ _ _ _ h => h) ?_
  apply Exists.intro
  refine ⟨Or.inl ⟨by rfl, fun wx hwx => ?_⟩, ?_⟩
  (obtain ⟨f1, f2, f3, f4, f5⟩ := hwx; go_simp; first | done | with_reducible rfl)
  refine anyL_readT 4 (i := 10) rfl (by kernel_rfl) (by kernel_rfl) (by kernel_rfl) (by kernel_rfl) (fun _ _ _ _ h => h) ?_
  apply Exists.intro
  refine ⟨Or.inl ⟨by rfl, fun wx hwx => ?_⟩, ?_⟩
  (obtain ⟨f1, f2, f3, f4, f5⟩ := hwx; go_simp; first | done | with_reducible rfl)
  refine anyL_readT 4 (i := 11) rfl (by kernel_rfl) (by kernel_rfl) (by kernel_rfl) (by kernel_rfl) (fun _ _ _ _ h => h) ?_
  apply Exists.intro
  refine ⟨Or.inl ⟨by rfl, fun wx hwx => ?_⟩, ?_⟩
  (obtain ⟨f1, f2, f3, f4, f5⟩ := hwx; go_simp; first | done | with_reducible rfl)
  go_simp
  refine anyL_one (i := 3) (o := ?o3) HC.out ?ha3 (by kernel_rfl) ?hb3
  case ha3 => rfl
  intro K hK
  go_simp
  refine Calls.mono (P1.out _) ?_
  rintro e3 w3 ⟨rfl, rfl⟩
  refine hK _ _ ?_
  clear hK K
  refine anyL_one (i := 6) (o := ?o6) HC.out ?ha6 (by kernel_rfl) ?hb6
  case ha6 => rfl
  intro K hK
  go_simp
  refine Calls.mono (P2.out _) ?_
  rintro e6 w6 ⟨rfl, rfl⟩
  refine hK _ _ ?_
  clear hK K
  refine anyL_one (i := 9) (o := ?o9) HC.out ?ha9 (by kernel_rfl) ?hb9
  case ha9 => rfl
  intro K hK
  go_simp
  refine Calls.mono (P3.out _) ?_
  rintro e9 w9 ⟨rfl, rfl⟩
  refine hK _ _ ?_
  clear hK K
  refine anyL_one (i := 12) (o := ?o12) HC.out ?ha12 (by kernel_rfl) ?hb12
  case ha12 => rfl
  intro K hK
  go_simp
  refine Calls.mono Hmake.out ?_
  rintro e w2 ⟨hst, rfl⟩
  refine hK _ _ ?_
  clear hK K
  have Hst : Hid (StepPost B w wb hp hd base cells S (.returned (.bool true)) w2) := hst
  clear hst Hmake HC P1 P2 P3
  refine anyL_after (i := 13) (o := ?o13) (by kernel_rfl) ?ha13 (by kernel_rfl) ?hb13
  case ha13 => rfl
  intro K hK
  go_simp
  refine hK _ _ ?_
  clear hK K
  refine anyL_done (by kernel_rfl) (by kernel_rfl) ?_
  go_wp2_with fail
  exact bodyPost_ret (by simp [results, Try.results5, go_sem]) rfl Hst.out
end
end Go.Proofs.Ytfeopoamednidaa
namespace Go.Proofs.Ytfeopoamednidaa
open Go.RowKit Go.Deep Go.IntWalk
section
set_option maxHeartbeats 8000000
set_option maxRecDepth 100000
theorem step_none (B : Nat) (w : World) (wb hp hd base : Nat) (cells : Int) (S : Nat) (first : Int) (v : Value) (ts : List Th) (vp : Value) (vq : Value) (qs : List Cl) (next : Int) (D : Doc) (mp : Option Nat) (q : Int → Option Addr) (ks : List Int) (R : Int → Int → Prop) (h : Jt B w wb hp hd base cells S first v ts vp [] vq qs next D mp q ks R) (hS : S + 1 ≤ 3000000000000) (k oa ob oc : Int) (lv : Value) (h1 : (k == 1) = false) (h6 : (k == 6) = false) (h5 : (k == 5) = false) :
    Calls Try.prog 5 #[.pointer (some ⟨wb, 0, none⟩), .agg #[.int .i64 k, .int .i64 oa, .int .i64 ob, .int .i64 oc, lv]] w fun e w' => StepPost B w wb hp hd base cells S e w' := by
  have hk1 : Kp [] w (w.alloc (.cells #[.int .i64 k, .int .i64 oa, .int .i64 ob, .int .i64 oc, lv] 38)) := Kp.alloc _ _ _
  have hbx : (w.alloc (.cells #[.int .i64 k, .int .i64 oa, .int .i64 ob, .int .i64 oc, lv] 38)).heap[w.heap.size]? = some (.cells #[.int .i64 k, .int .i64 oa, .int .i64 ob, .int .i64 oc, lv] 38) := alloc_get w _
  have hJ1 := h.kp hk1
  have z0 : (w.alloc (.cells #[.int .i64 k, .int .i64 oa, .int .i64 ob, .int .i64 oc, lv] 38)).cell? ⟨w.heap.size, 0, none⟩ = some (.int .i64 k) := by simp only [World.cell?, hbx]; rfl
  obtain ⟨pp, pc, gp, hvp, _, _⟩ := rv_form h.ms.p
  have hwx := hJ1.ms.box
  have c2 : (w.alloc (.cells #[.int .i64 k, .int .i64 oa, .int .i64 ob, .int .i64 oc, lv] 38)).cell? ⟨wb, 2, none⟩ = some (.slice pp 0 pc) := by
    simp only [List.length_nil] at hvp
    rw [← hvp]
    simp only [World.cell?, hwx]
    rfl
  have cl := (Array.getElem?_eq_some_iff.1 hwx).1
  have Hst : Hid (StepPost B w wb hp hd base cells S (.returned (.bool true)) (w.alloc (.cells #[.int .i64 k, .int .i64 oa, .int .i64 ob, .int .i64 oc, lv] 38))) := StepPost.mk _ _ _ _ _ _ _ _ _ _ _ _ _ _ (hJ1.up hS) (hk1.below (Nat.le_of_lt h.lt) (by simp))
  clear h hk1 hbx hJ1 hwx
  go_enter Try.func5, Try.ntmps5
  go_wp2_with fail
  exact bodyPost_ret (by simp [results, Try.results5, go_sem]) rfl Hst.out
end
end Go.Proofs.Ytfeopoamednidaa
