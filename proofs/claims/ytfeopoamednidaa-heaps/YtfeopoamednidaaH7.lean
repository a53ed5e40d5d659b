/-
  The layer heap: what a field becomes (field).
-/
import Derived.Test.YtfeopoamednidaaH6
namespace Go.Proofs.Ytfeopoamednidaa
open Go.RowKit Go.Deep
/-- What a field becomes, of some roots. -/
def fieldC (c : Int) (l : List Cl) : Cl := if c < 0 ∨ l.length = 0 then ⟨false, c⟩ else l.getD (pickN c l.length) default
theorem fieldC_num {c : Int} {l : List Cl} (h : c < 0 ∨ l.length = 0) : fieldC c l = ⟨false, c⟩ := if_pos h
theorem fieldC_at {c : Int} {l : List Cl} (h : ¬ (c < 0 ∨ l.length = 0)) (hl : pickN c l.length < l.length) : fieldC c l = l[pickN c l.length]'hl := by
  unfold fieldC
  rw [if_neg h]
  simp [List.getD_eq_getElem?_getD, hl]
theorem setBoth {w : World} {b : Nat} {x y u v : Value} {t : TypeId} (h : w.heap[b]? = some (.cells #[x, y] t)) : ((w.setCell ⟨b, 0, none⟩ u).setCell ⟨b, 1, none⟩ v).heap[b]? = some (.cells #[u, v] t) := by
  simp [World.setCell, Array.getElem?_modify, h]
theorem two_kp (w : World) (o1 o2 o3 o4 : Obj) : Kp [w.heap.size, w.heap.size + 1] ((w.alloc o1).alloc o2) ((w.alloc o3).alloc o4).drew := by
  have h1 : Kp [] w ((w.alloc o1).alloc o2) := (Kp.alloc _ _ _).trans (Kp.alloc _ _ _)
  have h2 : Kp [] w ((w.alloc o3).alloc o4).drew := ((Kp.alloc _ _ _).trans (Kp.alloc _ _ _)).drew
  refine ⟨rfl, rfl, rfl, by simp [World.drew], fun k hk hx => ?_⟩
  have hlt : k < w.heap.size := by
    simp at hk hx
    omega
  exact (h2.block k hlt (by simp)).trans (h1.block k hlt (by simp)).symm
inductive FieldPost (w : World) (c : Int) (ps qs : List Cl) (e : Ending) (w' : World) : Prop
  | mk (he : e = .returned (.tuple #[(fieldC c ps).val, (fieldC c qs).val])) (hk : Kp [] w w') : FieldPost w c ps qs e w'
section
set_option maxHeartbeats 8000000
set_option maxRecDepth 100000
theorem field_any (w : World) (wb : Nat) (hv : Value) (hb : Nat) (base : Nat) (p : Option Addr) (cp : Nat) (ps : List Cl) (q : Option Addr) (cq : Nat) (qs : List Cl) (hS : MS w wb hv hb base (.slice p ps.length cp) ps (.slice q qs.length cq) qs) (hlp : ps.length ≤ 4000000000000) (hpq : qs.length = ps.length) (c : Int) (hc : (Lit.int .i64 c).wf = true) :
    Calls Try.prog 12 #[.pointer (some ⟨wb, 0, none⟩), .int .i64 c] w fun e w' => FieldPost w c ps qs e w' := by
  have HS : Hid (MS w wb hv hb base (.slice p ps.length cp) ps (.slice q qs.length cq) qs) := hS
  have hk2 : Kp [] w ((w.alloc (.cells #[.bool false, .int .i64 0] 50)).alloc (.cells #[.bool false, .int .i64 0] 50)) := (Kp.alloc _ _ _).trans (Kp.alloc _ _ _)
  have hbx2 := (hk2.block wb (Array.getElem?_eq_some_iff.1 hS.box).1 (by simp)).trans hS.box
  have hlt : wb < w.heap.size := (Array.getElem?_eq_some_iff.1 hS.box).1
  have hlt2 : wb < ((w.alloc (.cells #[.bool false, .int .i64 0] 50)).alloc (.cells #[.bool false, .int .i64 0] 50)).heap.size := (Array.getElem?_eq_some_iff.1 hbx2).1
  have hcp : ((w.alloc (.cells #[.bool false, .int .i64 0] 50)).alloc (.cells #[.bool false, .int .i64 0] 50)).cell? ⟨wb, 2, none⟩ = some (.slice p ps.length cp) := by simp only [World.cell?, hbx2]; rfl
  have hcp0 : w.cell? ⟨wb, 2, none⟩ = some (.slice p ps.length cp) := by simp [World.cell?, hS.box]
  have Hk2 : Hid (Kp [] w ((w.alloc (.cells #[.bool false, .int .i64 0] 50)).alloc (.cells #[.bool false, .int .i64 0] 50))) := hk2
  clear hS hk2 hbx2
  by_cases h0 : c < 0
  · have Q : Hid (∀ w', Kp [] w w' → FieldPost w c ps qs (.returned (.tuple #[(⟨false, c⟩ : Cl).val, (⟨false, c⟩ : Cl).val])) w') := fun w' hk => FieldPost.mk (by rw [fieldC_num (Or.inl h0), fieldC_num (Or.inl h0)]) hk
    go_enter Try.func12, Try.ntmps12
    go_wp2
    exact bodyPost_ret (by simp [results, Try.results12, go_sem, Cl.val]) rfl (Q.out _ ((Kp.alloc _ _ _).trans (Kp.alloc _ _ _)))
  · by_cases h1 : ps.length = 0
    · have Q : Hid (∀ w', Kp [] w w' → FieldPost w c ps qs (.returned (.tuple #[(⟨false, c⟩ : Cl).val, (⟨false, c⟩ : Cl).val])) w') := fun w' hk => FieldPost.mk (by rw [fieldC_num (Or.inr h1), fieldC_num (Or.inr (by omega))]) hk
      have Hpq : Hid (qs.length = ps.length) := hpq
      clear hpq
      generalize ps.length = np at *
      subst h1
      go_enter Try.func12, Try.ntmps12
      go_wp2
      exact bodyPost_ret (by simp [results, Try.results12, go_sem, Cl.val]) rfl (Q.out _ ((Kp.alloc _ _ _).trans (Kp.alloc _ _ _)))
    · have hpos : 0 < ps.length := by omega
      have Hpick : Hid (∀ w, Calls Try.prog 8 #[.int .i64 c, .int .i64 (ps.length : Nat)] w fun e w' => e = .returned (.int .i64 (pickN c ps.length : Nat)) ∧ w' = w) := fun w => pick_any w c ps.length hc hpos (by omega)
      have hlp := pickN_lt c hpos
      have hlq : pickN c ps.length < qs.length := by omega
      have hi' : ¬ ((ps.length : Int) = 0) := by omega
      have Q : Hid (∀ w', Kp [] w w' → FieldPost w c ps qs (.returned (.tuple #[(ps[pickN c ps.length]'hlp).val, (qs[pickN c ps.length]'hlq).val])) w') := fun w' hk => FieldPost.mk (by
        have e2 := fieldC_at (c := c) (l := qs) (by omega) (by rw [hpq]; exact hlp)
        simp only [hpq] at e2
        rw [fieldC_at (by omega) hlp, e2]) hk
      obtain ⟨_, _, he, _, hrp⟩ := HS.out.p.at (by unfold maxLen; omega)
      cases he
      obtain ⟨_, _, he, _, hrq⟩ := HS.out.q.at (by unfold maxLen; omega)
      cases he
      obtain ⟨bp, op, rfl, hp0, hp1⟩ := hrp.get _ hlp
      obtain ⟨bq, oq, rfl, hq0, hq1⟩ := hrq.get _ hlq
      generalize ps[pickN c ps.length]'hlp = x at *
      generalize qs[pickN c ps.length]'hlq = y at *
      generalize hN : pickN c ps.length = N at *
      clear hN
      have Hbox : Hid (∀ wx, Kp [w.heap.size, w.heap.size + 1] ((w.alloc (.cells #[.bool false, .int .i64 0] 50)).alloc (.cells #[.bool false, .int .i64 0] 50)) wx → (wx.cell? ⟨wb, 2, none⟩ = some (.slice (some ⟨bp, op, none⟩) ps.length cp) ∧ wx.cell? ⟨wb, 3, none⟩ = some (.slice (some ⟨bq, oq, none⟩) qs.length cq) ∧ wb < wx.heap.size) ∧ (wx.cell? ⟨bp, op + N * 2, none⟩ = some (.bool x.p) ∧ wx.cell? ⟨bp, op + N * 2 + 1, none⟩ = some (.int .i64 x.n) ∧ bp < wx.heap.size) ∧ (wx.cell? ⟨bq, oq + N * 2, none⟩ = some (.bool y.p) ∧ wx.cell? ⟨bq, oq + N * 2 + 1, none⟩ = some (.int .i64 y.n) ∧ bq < wx.heap.size)) := fun wx hx => by
        have hk : Kp [] w wx := Kp.then Hk2.out hx (by simp)
        have h1 := (hk.block wb (Array.getElem?_eq_some_iff.1 HS.out.box).1 (by simp)).trans HS.out.box
        exact ⟨⟨by simp [World.cell?, h1], by simp [World.cell?, h1], (Array.getElem?_eq_some_iff.1 h1).1⟩, ⟨hk.cell hp0 (by simp), hk.cell hp1 (by simp), Nat.lt_of_lt_of_le (World.block_lt_of_cell? _ _ hp0) hk.size⟩, ⟨hk.cell hq0 (by simp), hk.cell hq1 (by simp), Nat.lt_of_lt_of_le (World.block_lt_of_cell? _ _ hq0) hk.size⟩⟩
      have hNp : ((N : Nat) : Int) < (ps.length : Nat) := by omega
      have hNq : ((N : Nat) : Int) < (qs.length : Nat) := by omega
      clear hp0 hp1 hq0 hq1 hrp hrq
      have Hpq : Hid (qs.length = ps.length) := hpq
      clear hpq
      go_enter Try.func12, Try.ntmps12
      go_wp2_with (go_at_call 8; refine Calls.mono (Hpick.out _) ?_; rintro e w' ⟨rfl, rfl⟩)
      refine region_any (C := fun wx => Kp [w.heap.size, w.heap.size + 1] ((w.alloc (.cells #[.bool false, .int .i64 0] 50)).alloc (.cells #[.bool false, .int .i64 0] 50)) wx) (by kernel_rfl) ?_
      refine anyIn_read (i := 0) rfl (by kernel_rfl) (by kernel_rfl) (by kernel_rfl) (fun _ _ _ _ h => h) ?_
      apply Exists.intro
      refine ⟨Or.inl ⟨by rfl, fun wx hwx => ?_⟩, ?_⟩
      (go_simp; first | done | with_reducible rfl)
      refine anyIn_read (i := 1) rfl (by kernel_rfl) (by kernel_rfl) (by kernel_rfl) (fun _ _ _ _ h => h) ?_
      apply Exists.intro
      refine ⟨Or.inl ⟨by rfl, fun wx hwx => ?_⟩, ?_⟩
      (go_simp; first | done | with_reducible rfl)
      refine anyIn_read (i := 2) rfl (by kernel_rfl) (by kernel_rfl) (by kernel_rfl) (fun _ _ _ _ h => h) ?_
      apply Exists.intro
      refine ⟨Or.inl ⟨by rfl, fun wx hwx => ?_⟩, ?_⟩
      (go_simp; first | done | with_reducible rfl)
      refine anyIn_read (i := 3) rfl (by kernel_rfl) (by kernel_rfl) (by kernel_rfl) (fun _ _ _ _ h => h) ?_
      apply Exists.intro
      refine ⟨Or.inl ⟨by rfl, fun wx hwx => ?_⟩, ?_⟩
      (obtain ⟨⟨f0, f1, f2⟩, ⟨f3, f4, f5⟩, ⟨f6, f7, f8⟩⟩ := Hbox.out wx hwx; go_simp; first | done | with_reducible rfl)
      refine anyIn_read (i := 4) rfl (by kernel_rfl) (by kernel_rfl) (by kernel_rfl) (fun _ _ _ _ h => h) ?_
      apply Exists.intro
      refine ⟨Or.inl ⟨by rfl, fun wx hwx => ?_⟩, ?_⟩
      (go_simp; first | done | with_reducible rfl)
      refine anyIn_read (i := 5) rfl (by kernel_rfl) (by kernel_rfl) (by kernel_rfl) (fun _ _ _ _ h => h) ?_
      apply Exists.intro
      refine ⟨Or.inl ⟨by rfl, fun wx hwx => ?_⟩, ?_⟩
      (obtain ⟨⟨f0, f1, f2⟩, ⟨f3, f4, f5⟩, ⟨f6, f7, f8⟩⟩ := Hbox.out wx hwx; go_simp; first | done | with_reducible rfl)
      refine anyIn_read (i := 6) rfl (by kernel_rfl) (by kernel_rfl) (by kernel_rfl) (fun _ _ _ _ h => h) ?_
      apply Exists.intro
      refine ⟨Or.inl ⟨by rfl, fun wx hwx => ?_⟩, ?_⟩
      (obtain ⟨⟨f0, f1, f2⟩, ⟨f3, f4, f5⟩, ⟨f6, f7, f8⟩⟩ := Hbox.out wx hwx; go_simp; first | done | with_reducible rfl)
      refine anyIn_read (i := 7) rfl (by kernel_rfl) (by kernel_rfl) (by kernel_rfl) (fun _ _ _ _ h => h) ?_
      apply Exists.intro
      refine ⟨Or.inl ⟨by rfl, fun wx hwx => ?_⟩, ?_⟩
      (go_simp; first | done | with_reducible rfl)
      refine anyIn_read (i := 8) rfl (by kernel_rfl) (by kernel_rfl) (by kernel_rfl) (fun _ _ _ _ h => h) ?_
      apply Exists.intro
      refine ⟨Or.inl ⟨by rfl, fun wx hwx => ?_⟩, ?_⟩
      (go_simp; first | done | with_reducible rfl)
      refine anyIn_read (i := 9) rfl (by kernel_rfl) (by kernel_rfl) (by kernel_rfl) (fun _ _ _ _ h => h) ?_
      apply Exists.intro
      refine ⟨Or.inl ⟨by rfl, fun wx hwx => ?_⟩, ?_⟩
      (go_simp; first | done | with_reducible rfl)
      refine anyIn_read (i := 10) rfl (by kernel_rfl) (by kernel_rfl) (by kernel_rfl) (fun _ _ _ _ h => h) ?_
      apply Exists.intro
      refine ⟨Or.inl ⟨by rfl, fun wx hwx => ?_⟩, ?_⟩
      (obtain ⟨⟨f0, f1, f2⟩, ⟨f3, f4, f5⟩, ⟨f6, f7, f8⟩⟩ := Hbox.out wx hwx; go_simp; first | done | with_reducible rfl)
      refine anyIn_read (i := 11) rfl (by kernel_rfl) (by kernel_rfl) (by kernel_rfl) (fun _ _ _ _ h => h) ?_
      apply Exists.intro
      refine ⟨Or.inl ⟨by rfl, fun wx hwx => ?_⟩, ?_⟩
      (go_simp; first | done | with_reducible rfl)
      refine anyIn_read (i := 12) rfl (by kernel_rfl) (by kernel_rfl) (by kernel_rfl) (fun _ _ _ _ h => h) ?_
      apply Exists.intro
      refine ⟨Or.inl ⟨by rfl, fun wx hwx => ?_⟩, ?_⟩
      (obtain ⟨⟨f0, f1, f2⟩, ⟨f3, f4, f5⟩, ⟨f6, f7, f8⟩⟩ := Hbox.out wx hwx; go_simp; first | done | with_reducible rfl)
      refine anyIn_read (i := 13) rfl (by kernel_rfl) (by kernel_rfl) (by kernel_rfl) (fun _ _ _ _ h => h) ?_
      apply Exists.intro
      refine ⟨Or.inl ⟨by rfl, fun wx hwx => ?_⟩, ?_⟩
      (obtain ⟨⟨f0, f1, f2⟩, ⟨f3, f4, f5⟩, ⟨f6, f7, f8⟩⟩ := Hbox.out wx hwx; go_simp; first | done | with_reducible rfl)
      refine anyIn_one (i := 14) ((Kp.refl _ _).drew) rfl (by kernel_rfl) (fun K hK => ?_)
      go_simp
      refine hK _ _ ?_
      clear hK K
      refine anyIn_one (i := 15) (two_kp w _ _ _ _) rfl (by kernel_rfl) (fun K hK => ?_)
      go_simp
      refine hK _ _ ?_
      clear hK K
      refine anyIn_done (two_kp w _ _ _ _) (by kernel_rfl) ?_
      go_simp
      clear Hbox HS hcp hcp0
      go_wp2
      exact bodyPost_ret (by simp [results, Try.results12, go_sem, Cl.val]) rfl (Q.out _ ((Kp.alloc _ _ _).trans (Kp.alloc _ _ _)).drew)
end
end Go.Proofs.Ytfeopoamednidaa
