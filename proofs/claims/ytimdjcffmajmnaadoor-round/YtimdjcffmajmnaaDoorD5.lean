/-
  The program's reader of bytes: an instruction (ins).
-/
import Derived.Test.YtimdjcffmajmnaaDoorD4
namespace Go.Proofs.YtimdjcffmajmnaaDoor
open Go.RowKit Go.Deep
theorem XBox.setOp {w : World} {xp : Nat} {x : In} (h : XBox w xp x) (v : Int) : XBox (w.setCell ⟨xp, 0, none⟩ (.int .i64 v)) xp ⟨v, x.a, x.b⟩ := by
  unfold XBox at *
  simp [World.setCell, Array.getElem?_modify, h]
theorem evR_nil {k a : Int} (h : k = 0) : evR k a = .nilIface := by unfold evR; rw [if_pos h]
theorem evR_err {k a : Int} (h : ¬ k = 0) : evR k a = .iface 63 (.agg #[.int .i64 k, .int .i64 a]) := by unfold evR; rw [if_neg h]
/-- What the walk of ins has in memory. -/
structure IW (w : World) (rp : Nat) (S : ByteArray) (xp : Nat) (P : Int) (x : In) (u : World) : Prop where
  pb : PBox u rp S P
  xb : XBox u xp x
  kp : Kp [rp] w u
  xr : xp ≠ rp
  fr : w.heap.size ≤ xp
section
variable {w : World} {rp : Nat} {S : ByteArray} {xp : Nat} {P : Int} {x : In} {u : World}
theorem IW.call (h : IW w rp S xp P x u) {u' : World} {P' : Int} (hp : PBox u' rp S P') (hk : Kp [rp] u u') : IW w rp S xp P' x u' := ⟨hp, h.xb.kp hk (by simpa using h.xr), h.kp.trans hk, h.xr, h.fr⟩
theorem IW.put (h : IW w rp S xp P x u) {u' : World} {x' : In} (hx : XBox u' xp x') (hk : Kp [xp] u u') : IW w rp S xp P x' u' := ⟨h.pb.kp hk (by simpa using Ne.symm h.xr), hx, h.kp.then hk (by intro y hy; right; simp only [List.mem_singleton] at hy; rw [hy]; exact h.fr), h.xr, h.fr⟩
theorem IW.op (h : IW w rp S xp P x u) (v : Int) : IW w rp S xp P ⟨v, x.a, x.b⟩ (u.setCell ⟨xp, 0, none⟩ (.int .i64 v)) := h.put (h.xb.setOp v) (Kp.setCell _ ⟨xp, 0, none⟩ (by simp) _)
theorem IW.a (h : IW w rp S xp P x u) (v : Int) : IW w rp S xp P ⟨x.op, v, x.b⟩ (u.setCell ⟨xp, 1, none⟩ (.int .i64 v)) := h.put (h.xb.setA v) (Kp.setCell _ ⟨xp, 1, none⟩ (by simp) _)
theorem IW.b (h : IW w rp S xp P x u) (v : Int) : IW w rp S xp P ⟨x.op, x.a, v⟩ (u.setCell ⟨xp, 2, none⟩ (.int .i64 v)) := h.put (h.xb.setB v) (Kp.setCell _ ⟨xp, 2, none⟩ (by simp) _)
theorem IW.all (h : IW w rp S xp P x u) : IW w rp S xp P x (((u.setCell ⟨xp, 0, none⟩ (.int .i64 x.op)).setCell ⟨xp, 1, none⟩ (.int .i64 x.a)).setCell ⟨xp, 2, none⟩ (.int .i64 x.b)) := ((h.op x.op).a x.a).b x.b
end
def ins0 (S : ByteArray) (pos : Nat) : In × Rs := insR S ⟨pos, 0, 0⟩
theorem ins0_short {S : ByteArray} {pos : Nat} (h : (S.size : Int) - pos < (1 : Nat)) : ins0 S pos = (⟨0, 0, 0⟩, ⟨pos, 16, S.size⟩) := by
  have := num0_short (S := S) (n := 1) (pos := pos) h
  unfold num0 at this
  unfold ins0 insR insStart
  rw [this]
  simp [isOp, form, formT, insLoop]
theorem ins0_op {S : ByteArray} {pos : Nat} (h : ¬ (S.size : Int) - pos < (1 : Nat)) (hop : isOp (numAt S pos 1) = false) : ins0 S pos = (⟨numAt S pos 1, 0, 0⟩, ⟨pos + 1, 18, pos⟩) := by
  have := num0_ok (S := S) (n := 1) (pos := pos) h
  unfold num0 at this
  have hf : form (numAt S pos 1) = [] := (form_out (by have := isOp_not hop; omega)).1
  unfold ins0 insR insStart
  rw [this]
  simp [hop, hf, insLoop, Rs.fail]
theorem ins0_of {S : ByteArray} {pos : Nat} (h : ¬ (S.size : Int) - pos < (1 : Nat)) (hop : isOp (numAt S pos 1) = true) : ins0 S pos = insLoop S (form (numAt S pos 1)) 0 (⟨numAt S pos 1, 0, 0⟩, ⟨pos + 1, 0, 0⟩) := by
  have := num0_ok (S := S) (n := 1) (pos := pos) h
  unfold num0 at this
  unfold ins0 insR insStart
  rw [this]
  simp [hop]
theorem loop_one (S : ByteArray) (c : UInt8) (v : Int) (pos : Nat) : insLoop S [c] 0 (⟨v, 0, 0⟩, ⟨pos, 0, 0⟩) = (⟨v, (argR S c ⟨pos, 0, 0⟩).1, 0⟩, (argR S c ⟨pos, 0, 0⟩).2) := by
  simp [insLoop, In.put]
theorem arg_n (S : ByteArray) (pos : Nat) : argR S 110 ⟨pos, 0, 0⟩ = num0 S 2 pos := by
  unfold argR num0
  simp
theorem num0_fine {S : ByteArray} {n pos : Nat} (h : (num0 S n pos).2.kind = 0) : (num0 S n pos).2 = ⟨pos + n, 0, 0⟩ := by
  by_cases hgt : (S.size : Int) - pos < n
  · rw [num0_short hgt] at h
    cases h
  · rw [num0_ok hgt]
theorem loop_two (S : ByteArray) (v : Int) (pos : Nat) : insLoop S [110, 110] 0 (⟨v, 0, 0⟩, ⟨pos, 0, 0⟩) = if (num0 S 2 pos).2.kind = 0 then (⟨v, (num0 S 2 pos).1, (num0 S 2 (pos + 2)).1⟩, (num0 S 2 (pos + 2)).2) else (⟨v, (num0 S 2 pos).1, 0⟩, (num0 S 2 pos).2) := by
  simp only [insLoop, In.put, arg_n]
  by_cases hk : (num0 S 2 pos).2.kind = 0
  · have := num0_fine hk
    simp [hk]
    rw [this, arg_n]
    simp
  · simp [hk]
section
set_option maxHeartbeats 8000000
set_option maxRecDepth 100000
theorem ins_read (w : World) (rp : Nat) (S : ByteArray) (pos : Nat) (h : PBox w rp S pos) (hSh : ShIn w) (hrp : 1 ≠ rp) (hS : S.size ≤ 4000000) (hp : pos ≤ 4000000) : Calls Tryd.prog 61 #[.pointer (some ⟨rp, 0, none⟩)] w fun e w' => e = .returned (.tuple #[.agg #[.int .i64 (ins0 S pos).1.op, .int .i64 (ins0 S pos).1.a, .int .i64 (ins0 S pos).1.b], evR (ins0 S pos).2.kind (ins0 S pos).2.fat]) ∧ PBox w' rp S (ins0 S pos).2.pos ∧ Kp [rp] w w' := by
  have hiw : IW w rp S w.heap.size pos ⟨0, 0, 0⟩ (w.alloc (.cells #[.int .i64 0, .int .i64 0, .int .i64 0] 47)) := ⟨h.kp (Kp.alloc [] _ _) (by simp), (MapKept.heap_alloc w _).1, Kp.alloc _ _ _, by have := h.lt; omega, Nat.le_refl _⟩
  have HI0 : Hid (IW w rp S w.heap.size pos ⟨0, 0, 0⟩ _) := hiw
  have HSh : Hid (∀ wx, Kp [rp] w wx → ShIn wx) := fun wx hx => hSh.of_block (hx.block 1 hSh.lt (by simpa using hrp))
  have hn1 := numAt_pos S pos 1
  obtain ⟨R, hR⟩ : ∃ R, R = ins0 S pos := ⟨_, rfl⟩
  rw [← hR]
  have HR : Hid (R = ins0 S pos) := hR
  clear hiw hSh h hR
  go_enter Tryd.func61, Tryd.ntmps61
  go_upto_region 1 with fail
  generalize w.alloc (.cells #[.int .i64 0, .int .i64 0, .int .i64 0] 47) = w0 at *
  obtain ⟨c0, c1, c2, c3⟩ := PBox.cells HI0.out.pb
  by_cases hgt : (S.size : Int) - pos < (1 : Nat)
  · have Hcn : Hid _ := natural_short w0 rp S pos 1 HI0.out.pb hS hp hgt
    have hR2 : R = (⟨0, 0, 0⟩, ⟨pos, 16, S.size⟩) := by rw [HR.out, ins0_short hgt]
    subst hR2
    clear HR
    go_wp2_with fail
    refine Calls.mono Hcn.out ?_
    rintro e1 w1 ⟨rfl, p1, k1⟩
    have H1 : Hid (IW w rp S w.heap.size pos ⟨0, 0, 0⟩ w1) := IW.call HI0.out p1 k1
    clear c0 c1 c2 c3 Hcn p1 k1
    obtain ⟨x0, x1, x2, xf⟩ := H1.out.xb.cells
    have xf0 := xf 0
    have xf1 := xf 1
    have xf2 := xf 2
    have xl := H1.out.xb.lt
    obtain ⟨c0, c1, c2, c3⟩ := H1.out.pb.cells
    simp only at x0 x1 x2
    clear xf
    have H2 : Hid (IW w rp S w.heap.size pos ⟨0, 0, 0⟩ (w1.setCell ⟨w.heap.size, 0, none⟩ (.int .i64 0))) := H1.out.op 0
    go_upto_region 4 with fail
    clear x0 x1 x2 xf0 xf1 xf2 xl c0 c1 c2 c3
    generalize w1.setCell ⟨w.heap.size, 0, none⟩ (.int .i64 0) = w2 at *
    obtain ⟨x0, x1, x2, xf⟩ := H2.out.xb.cells
    have xf0 := xf 0
    have xf1 := xf 1
    have xf2 := xf 2
    have xl := H2.out.xb.lt
    obtain ⟨c0, c1, c2, c3⟩ := H2.out.pb.cells
    simp only at x0 x1 x2
    clear xf
    have hfin := H2.out.all
    obtain ⟨z0, z1, z2, _⟩ := hfin.xb.cells
    have Hfin : Hid _ := And.intro hfin.pb hfin.kp
    simp only at z0 z1 z2
    clear hfin
    go_wp2
    exact bodyPost_ret (v := .tuple #[.agg #[.int .i64 0, .int .i64 0, .int .i64 0], .iface 63 (.agg #[.int .i64 16, .int .i64 S.size])]) (by simp [results, Tryd.results61, go_sem, z0, z1, z2]) rfl ⟨rfl, Hfin.out⟩
  have Hcn : Hid _ := natural_ok w0 rp S pos 1 HI0.out.pb hS (by omega) (by omega)
  obtain ⟨v, hv⟩ : ∃ v, v = numAt S pos 1 := ⟨_, rfl⟩
  have hop1 := ins0_op (S := S) (pos := pos) hgt
  have hop2 := ins0_of (S := S) (pos := pos) hgt
  rw [← hv] at hop1 hop2 Hcn hn1
  have Hop1 : Hid _ := hop1
  have Hop2 : Hid _ := hop2
  clear hop1 hop2 hv
  go_wp2_with fail
  refine Calls.mono Hcn.out ?_
  rintro e1 w1 ⟨rfl, p1, k1⟩
  have H1 : Hid (IW w rp S w.heap.size ((pos + 1 : Nat) : Int) ⟨0, 0, 0⟩ w1) := IW.call HI0.out p1 k1
  clear c0 c1 c2 c3 Hcn p1 k1
  obtain ⟨x0, x1, x2, xf⟩ := H1.out.xb.cells
  have xf0 := xf 0
  have xf1 := xf 1
  have xf2 := xf 2
  have xl := H1.out.xb.lt
  obtain ⟨c0, c1, c2, c3⟩ := H1.out.pb.cells
  simp only at x0 x1 x2
  clear xf
  have H2 : Hid (IW w rp S w.heap.size ((pos + 1 : Nat) : Int) ⟨v, 0, 0⟩ (w1.setCell ⟨w.heap.size, 0, none⟩ (.int .i64 v))) := H1.out.op v
  go_upto_region 5 with fail
  clear x0 x1 x2 xf0 xf1 xf2 xl c0 c1 c2 c3
  generalize w1.setCell ⟨w.heap.size, 0, none⟩ (.int .i64 v) = w2 at *
  obtain ⟨x0, x1, x2, xf⟩ := H2.out.xb.cells
  have xf0 := xf 0
  have xf1 := xf 1
  have xf2 := xf 2
  have xl := H2.out.xb.lt
  obtain ⟨c0, c1, c2, c3⟩ := H2.out.pb.cells
  simp only at x0 x1 x2
  clear xf
  have Hb : Hid _ := below_any v 26 w2
  have e26 : (decide (0 ≤ v) && decide (v < 26)) = isOp v := by
    unfold isOp
    congr 1
    apply decide_eq_decide.2
    omega
  rw [e26] at Hb
  clear e26
  cases hop : isOp v
  · have hR2 : R = (⟨v, 0, 0⟩, ⟨pos + 1, 18, pos⟩) := by rw [HR.out, Hop1.out hop]
    subst hR2
    rw [hop] at Hb
    clear HR Hop1 Hop2 hop
    go_wp2_with fail
    refine Calls.mono Hb.out ?_
    rintro e3 w3 ⟨rfl, rfl⟩
    clear Hb
    go_upto_region 6 with fail
    have hfin := H2.out.all
    obtain ⟨z0, z1, z2, _⟩ := hfin.xb.cells
    have Hfin : Hid _ := And.intro (PBox.kp hfin.pb ((Kp.refl [] _).drew) (by simp)) (Kp.drew hfin.kp)
    simp only at z0 z1 z2
    clear hfin
    go_region_with (go_at_call 41; refine (refuse_any 18 pos _).mono ?_; rintro e4 w4 ⟨rfl, rfl⟩)
    all_goals go_wp2
    all_goals exact bodyPost_ret (v := .tuple #[.agg #[.int .i64 v, .int .i64 0, .int .i64 0], .iface 63 (.agg #[.int .i64 18, .int .i64 pos])]) (by simp [results, Tryd.results61, go_sem, z0, z1, z2]) rfl ⟨rfl, Hfin.out⟩
  rw [hop] at Hb
  obtain ⟨k, rfl, hk⟩ := isOp_nat hop
  have hR2 := HR.out
  rw [Hop2.out hop] at hR2
  obtain ⟨d0, -, -⟩ := (HSh.out _ H2.out.kp).cells k hk
  have hk' : (k : Int) < 26 := by omega
  clear HR Hop1 Hop2 hop
  go_wp2_with fail
  refine Calls.mono Hb.out ?_
  rintro e3 w3 ⟨rfl, rfl⟩
  clear Hb
  rcases kind_form k hk with ⟨h1, h2⟩ | ⟨h1, h2⟩ | ⟨h1, h2⟩ | ⟨h1, h2⟩
  · rw [h1] at d0
    rw [h2] at hR2
    have hR3 : R = (⟨k, 0, 0⟩, ⟨pos + 1, 0, 0⟩) := hR2
    subst hR3
    clear h1 h2 hR2
    have hfin := H2.out.all
    obtain ⟨z0, z1, z2, _⟩ := hfin.xb.cells
    have Hfin : Hid _ := And.intro hfin.pb hfin.kp
    simp only at z0 z1 z2
    clear hfin
    go_wp2
    exact bodyPost_ret (v := .tuple #[.agg #[.int .i64 k, .int .i64 0, .int .i64 0], .nilIface]) (by simp [results, Tryd.results61, go_sem, z0, z1, z2]) rfl ⟨rfl, Hfin.out⟩
  · rw [h1] at d0
    rw [h2, loop_one] at hR2
    have Hc : Hid _ := number_read w3 rp S (pos + 1) H2.out.pb hS (by omega)
    generalize argR S 105 ⟨pos + 1, 0, 0⟩ = A at *
    obtain ⟨av, r2⟩ := A
    simp only at Hc hR2
    subst hR2
    clear h1 h2
    go_wp2_with fail
    refine Calls.mono Hc.out ?_
    rintro e4 w4 ⟨rfl, p4, k4⟩
    have H4 : Hid (IW w rp S w.heap.size r2.pos ⟨k, 0, 0⟩ w4) := IW.call H2.out p4 k4
    clear d0 Hc p4 k4
    clear x0 x1 x2 xf0 xf1 xf2 xl c0 c1 c2 c3
    obtain ⟨x0, x1, x2, xf⟩ := H4.out.xb.cells
    have xf0 := xf 0
    have xf1 := xf 1
    have xf2 := xf 2
    have xl := H4.out.xb.lt
    obtain ⟨c0, c1, c2, c3⟩ := H4.out.pb.cells
    simp only at x0 x1 x2
    clear xf
    have H5 : Hid (IW w rp S w.heap.size r2.pos ⟨k, av, 0⟩ (w4.setCell ⟨w.heap.size, 1, none⟩ (.int .i64 av))) := H4.out.a av
    generalize hev : evR r2.kind r2.fat = ev at *
    have Hev : Hid (evR r2.kind r2.fat = ev) := hev
    clear hev
    go_upto_region 16 with fail
    clear x0 x1 x2 xf0 xf1 xf2 xl c0 c1 c2 c3
    generalize w4.setCell ⟨w.heap.size, 1, none⟩ (.int .i64 av) = w5 at *
    obtain ⟨x0, x1, x2, xf⟩ := H5.out.xb.cells
    have xf0 := xf 0
    have xf1 := xf 1
    have xf2 := xf 2
    have xl := H5.out.xb.lt
    obtain ⟨c0, c1, c2, c3⟩ := H5.out.pb.cells
    simp only at x0 x1 x2
    clear xf
    have hfin := H5.out.all
    obtain ⟨z0, z1, z2, _⟩ := hfin.xb.cells
    have Hfin : Hid _ := And.intro hfin.pb hfin.kp
    simp only at z0 z1 z2
    clear hfin
    go_wp2
    exact bodyPost_ret (v := .tuple #[.agg #[.int .i64 k, .int .i64 av, .int .i64 0], ev]) (by simp [results, Tryd.results61, go_sem, z0, z1, z2]) rfl ⟨by rw [Hev.out], Hfin.out⟩
  · rw [h1] at d0
    rw [h2, loop_one, arg_n] at hR2
    have Hc : Hid _ := two_read w3 rp S (pos + 1) H2.out.pb hS (by omega)
    generalize num0 S 2 (pos + 1) = A at *
    obtain ⟨av, r2⟩ := A
    simp only at Hc hR2
    subst hR2
    clear h1 h2
    go_wp2_with fail
    refine Calls.mono Hc.out ?_
    rintro e4 w4 ⟨rfl, p4, k4⟩
    have H4 : Hid (IW w rp S w.heap.size r2.pos ⟨k, 0, 0⟩ w4) := IW.call H2.out p4 k4
    clear d0 Hc p4 k4
    clear x0 x1 x2 xf0 xf1 xf2 xl c0 c1 c2 c3
    obtain ⟨x0, x1, x2, xf⟩ := H4.out.xb.cells
    have xf0 := xf 0
    have xf1 := xf 1
    have xf2 := xf 2
    have xl := H4.out.xb.lt
    obtain ⟨c0, c1, c2, c3⟩ := H4.out.pb.cells
    simp only at x0 x1 x2
    clear xf
    have H5 : Hid (IW w rp S w.heap.size r2.pos ⟨k, av, 0⟩ (w4.setCell ⟨w.heap.size, 1, none⟩ (.int .i64 av))) := H4.out.a av
    generalize hev : evR r2.kind r2.fat = ev at *
    have Hev : Hid (evR r2.kind r2.fat = ev) := hev
    clear hev
    go_upto_region 16 with fail
    clear x0 x1 x2 xf0 xf1 xf2 xl c0 c1 c2 c3
    generalize w4.setCell ⟨w.heap.size, 1, none⟩ (.int .i64 av) = w5 at *
    obtain ⟨x0, x1, x2, xf⟩ := H5.out.xb.cells
    have xf0 := xf 0
    have xf1 := xf 1
    have xf2 := xf 2
    have xl := H5.out.xb.lt
    obtain ⟨c0, c1, c2, c3⟩ := H5.out.pb.cells
    simp only at x0 x1 x2
    clear xf
    have hfin := H5.out.all
    obtain ⟨z0, z1, z2, _⟩ := hfin.xb.cells
    have Hfin : Hid _ := And.intro hfin.pb hfin.kp
    simp only at z0 z1 z2
    clear hfin
    go_wp2
    exact bodyPost_ret (v := .tuple #[.agg #[.int .i64 k, .int .i64 av, .int .i64 0], ev]) (by simp [results, Tryd.results61, go_sem, z0, z1, z2]) rfl ⟨by rw [Hev.out], Hfin.out⟩
  · rw [h1] at d0
    rw [h2, loop_two] at hR2
    have Hc : Hid _ := two_read w3 rp S (pos + 1) H2.out.pb hS (by omega)
    have Hfine : Hid _ := num0_fine (S := S) (n := 2) (pos := pos + 1)
    have hq : (num0 S 2 (pos + 1)).2.kind = 0 → pos + 1 + 2 ≤ S.size := fun hz => by
      by_cases hg : (S.size : Int) - (pos + 1 : Nat) < (2 : Nat)
      · rw [num0_short hg] at hz
        cases hz
      · omega
    have Hq : Hid _ := hq
    have Hc2 : Hid (∀ wx : World, PBox wx rp S ((pos + 1 + 2 : Nat) : Int) → pos + 1 + 2 ≤ 4000000 → _) := fun wx hx hl => two_read wx rp S (pos + 1 + 2) hx hS hl
    generalize num0 S 2 (pos + 1) = A at *
    generalize num0 S 2 (pos + 1 + 2) = B at *
    obtain ⟨av, r2⟩ := A
    obtain ⟨bv, r3⟩ := B
    simp only at Hc hR2 Hfine Hq Hc2
    clear h1 h2 hq
    go_wp2_with fail
    refine Calls.mono Hc.out ?_
    rintro e4 w4 ⟨rfl, p4, k4⟩
    have H4 : Hid (IW w rp S w.heap.size r2.pos ⟨k, 0, 0⟩ w4) := IW.call H2.out p4 k4
    clear d0 Hc p4 k4
    clear x0 x1 x2 xf0 xf1 xf2 xl c0 c1 c2 c3
    obtain ⟨x0, x1, x2, xf⟩ := H4.out.xb.cells
    have xf0 := xf 0
    have xf1 := xf 1
    have xf2 := xf 2
    have xl := H4.out.xb.lt
    obtain ⟨c0, c1, c2, c3⟩ := H4.out.pb.cells
    simp only at x0 x1 x2
    clear xf
    have H5 : Hid (IW w rp S w.heap.size r2.pos ⟨k, av, 0⟩ (w4.setCell ⟨w.heap.size, 1, none⟩ (.int .i64 av))) := H4.out.a av
    go_upto_region 14 with fail
    clear x0 x1 x2 xf0 xf1 xf2 xl c0 c1 c2 c3
    generalize w4.setCell ⟨w.heap.size, 1, none⟩ (.int .i64 av) = w5 at *
    obtain ⟨x0, x1, x2, xf⟩ := H5.out.xb.cells
    have xf0 := xf 0
    have xf1 := xf 1
    have xf2 := xf 2
    have xl := H5.out.xb.lt
    obtain ⟨c0, c1, c2, c3⟩ := H5.out.pb.cells
    simp only at x0 x1 x2
    clear xf
    by_cases hz : r2.kind = 0
    · have e2 := Hfine.out hz
      rw [if_pos hz] at hR2
      subst hR2
      rw [evR_nil hz]
      have Hc : Hid _ := Hc2.out w5 (by have := H5.out.pb; rw [e2] at this; exact this) (by have := Hq.out hz; omega)
      clear Hc2 hz Hfine Hq
      go_wp2_with fail
      refine Calls.mono Hc.out ?_
      rintro e6 w6 ⟨rfl, p6, k6⟩
      have H6 : Hid (IW w rp S w.heap.size r3.pos ⟨k, av, 0⟩ w6) := IW.call H5.out p6 k6
      clear Hc p6 k6
      clear x0 x1 x2 xf0 xf1 xf2 xl c0 c1 c2 c3
      obtain ⟨x0, x1, x2, xf⟩ := H6.out.xb.cells
      have xf0 := xf 0
      have xf1 := xf 1
      have xf2 := xf 2
      have xl := H6.out.xb.lt
      obtain ⟨c0, c1, c2, c3⟩ := H6.out.pb.cells
      simp only at x0 x1 x2
      clear xf
      have H7 : Hid (IW w rp S w.heap.size r3.pos ⟨k, av, bv⟩ (w6.setCell ⟨w.heap.size, 2, none⟩ (.int .i64 bv))) := H6.out.b bv
      generalize hev : evR r3.kind r3.fat = ev at *
      have Hev : Hid (evR r3.kind r3.fat = ev) := hev
      clear hev
      go_upto_region 16 with fail
      clear x0 x1 x2 xf0 xf1 xf2 xl c0 c1 c2 c3
      generalize w6.setCell ⟨w.heap.size, 2, none⟩ (.int .i64 bv) = w7 at *
      obtain ⟨x0, x1, x2, xf⟩ := H7.out.xb.cells
      have xf0 := xf 0
      have xf1 := xf 1
      have xf2 := xf 2
      have xl := H7.out.xb.lt
      obtain ⟨c0, c1, c2, c3⟩ := H7.out.pb.cells
      simp only at x0 x1 x2
      clear xf
      have hfin := H7.out.all
      obtain ⟨z0, z1, z2, _⟩ := hfin.xb.cells
      have Hfin : Hid _ := And.intro hfin.pb hfin.kp
      simp only at z0 z1 z2
      clear hfin
      go_wp2
      exact bodyPost_ret (v := .tuple #[.agg #[.int .i64 k, .int .i64 av, .int .i64 bv], ev]) (by simp [results, Tryd.results61, go_sem, z0, z1, z2]) rfl ⟨by rw [Hev.out], Hfin.out⟩
    · rw [if_neg hz] at hR2
      subst hR2
      have Hev : Hid (evR r2.kind r2.fat = .iface 63 (.agg #[.int .i64 r2.kind, .int .i64 r2.fat])) := evR_err hz
      rw [Hev.out]
      clear Hc2 hz Hfine Hq
      go_upto_region 16 with fail
      have hfin := H5.out.all
      obtain ⟨z0, z1, z2, _⟩ := hfin.xb.cells
      have Hfin : Hid _ := And.intro hfin.pb hfin.kp
      simp only at z0 z1 z2
      clear hfin
      go_wp2
      exact bodyPost_ret (v := .tuple #[.agg #[.int .i64 k, .int .i64 av, .int .i64 0], .iface 63 (.agg #[.int .i64 r2.kind, .int .i64 r2.fat])]) (by simp [results, Tryd.results61, go_sem, z0, z1, z2]) rfl ⟨by rw [Hev.out], Hfin.out⟩
end
end Go.Proofs.YtimdjcffmajmnaaDoor
