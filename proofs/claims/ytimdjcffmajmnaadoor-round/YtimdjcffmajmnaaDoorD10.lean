/-
  The program's reader of bytes: a function (fun).
-/
import Derived.Test.YtimdjcffmajmnaaDoorD9
namespace Go.Proofs.YtimdjcffmajmnaaDoor
open Go.RowKit Go.Deep
/-- The three cells of a function that is being read. -/
def UBox (w : World) (xp : Nat) (a b : Int) (q : Option Addr) (m c : Nat) : Prop := w.heap[xp]? = some (.cells #[.int .i64 a, .int .i64 b, .slice q m c] 50)
section
variable {w w' : World} {xp : Nat} {a b : Int} {q : Option Addr} {m c : Nat}
theorem UBox.lt (h : UBox w xp a b q m c) : xp < w.heap.size := (Array.getElem?_eq_some_iff.1 h).1
theorem UBox.kp {X : List Nat} (h : UBox w xp a b q m c) (hk : Kp X w w') (hx : xp ∉ X) : UBox w' xp a b q m c := (hk.block xp h.lt hx).trans h
theorem UBox.cells (h : UBox w xp a b q m c) : w.cell? ⟨xp, 0, none⟩ = some (.int .i64 a) ∧ w.cell? ⟨xp, 1, none⟩ = some (.int .i64 b) ∧ w.cell? ⟨xp, 2, none⟩ = some (.slice q m c) ∧ (∀ j, w.frozen? ⟨xp, j, none⟩ = false) := by
  unfold UBox at h
  refine ⟨?_, ?_, ?_, fun j => ?_⟩ <;> simp [World.cell?, World.frozen?, h]
theorem UBox.set0 (h : UBox w xp a b q m c) (v : Int) : UBox (w.setCell ⟨xp, 0, none⟩ (.int .i64 v)) xp v b q m c := by
  unfold UBox at *
  simp [World.setCell, Array.getElem?_modify, h]
theorem UBox.set1 (h : UBox w xp a b q m c) (v : Int) : UBox (w.setCell ⟨xp, 1, none⟩ (.int .i64 v)) xp a v q m c := by
  unfold UBox at *
  simp [World.setCell, Array.getElem?_modify, h]
theorem UBox.set2 (h : UBox w xp a b q m c) (q' : Option Addr) (m' c' : Nat) : UBox (w.setCell ⟨xp, 2, none⟩ (.slice q' m' c')) xp a b q' m' c' := by
  unfold UBox at *
  simp [World.setCell, Array.getElem?_modify, h]
end
/-- What the walk of fun has in memory. -/
structure UW (w : World) (rp : Nat) (xp : Nat) (a b : Int) (q : Option Addr) (m c : Nat) (u : World) : Prop where
  xb : UBox u xp a b q m c
  kp : Kp [rp] w u
  xr : xp ≠ rp
  fr : w.heap.size ≤ xp
section
variable {w : World} {rp : Nat} {xp : Nat} {a b : Int} {q : Option Addr} {m c : Nat} {u : World}
theorem UW.call (h : UW w rp xp a b q m c u) {u' : World} (hk : Kp [rp] u u') : UW w rp xp a b q m c u' := ⟨h.xb.kp hk (by simpa using h.xr), h.kp.trans hk, h.xr, h.fr⟩
theorem UW.put (h : UW w rp xp a b q m c u) {u' : World} {a' b' : Int} {q' : Option Addr} {m' c' : Nat} (hx : UBox u' xp a' b' q' m' c') (hk : Kp [xp] u u') : UW w rp xp a' b' q' m' c' u' := ⟨hx, h.kp.then hk (by intro y hy; right; simp only [List.mem_singleton] at hy; rw [hy]; exact h.fr), h.xr, h.fr⟩
theorem UW.p0 (h : UW w rp xp a b q m c u) (v : Int) : UW w rp xp v b q m c (u.setCell ⟨xp, 0, none⟩ (.int .i64 v)) := h.put (h.xb.set0 v) (Kp.setCell _ ⟨xp, 0, none⟩ (by simp) _)
theorem UW.p1 (h : UW w rp xp a b q m c u) (v : Int) : UW w rp xp a v q m c (u.setCell ⟨xp, 1, none⟩ (.int .i64 v)) := h.put (h.xb.set1 v) (Kp.setCell _ ⟨xp, 1, none⟩ (by simp) _)
theorem UW.p2 (h : UW w rp xp a b q m c u) (q' : Option Addr) (m' c' : Nat) : UW w rp xp a b q' m' c' (u.setCell ⟨xp, 2, none⟩ (.slice q' m' c')) := h.put (h.xb.set2 q' m' c') (Kp.setCell _ ⟨xp, 2, none⟩ (by simp) _)
theorem UW.all (h : UW w rp xp a b q m c u) : UW w rp xp a b q m c (((u.setCell ⟨xp, 0, none⟩ (.int .i64 a)).setCell ⟨xp, 1, none⟩ (.int .i64 b)).setCell ⟨xp, 2, none⟩ (.slice q m c)) := ((h.p0 a).p1 b).p2 q m c
end
def fun0 (S : ByteArray) (pos : Nat) : Fn × Rs := funR S ⟨pos, 0, 0⟩
theorem fun0_a {S : ByteArray} {pos : Nat} (h : ¬ (num0 S 2 pos).2.kind = 0) : (fun0 S pos).2 = (num0 S 2 pos).2 := by
  have e : Rs.num S 2 ⟨pos, 0, 0⟩ = num0 S 2 pos := rfl
  have e2 : Rs.num S 2 (num0 S 2 pos).2 = (0, (num0 S 2 pos).2) := by unfold Rs.num; rw [if_neg h]
  unfold fun0 funR funTail
  rw [e, e2]
  simp only [e2]
  rfl
theorem fun0_b {S : ByteArray} {pos : Nat} (h : (num0 S 2 pos).2.kind = 0) (h2 : ¬ (num0 S 2 (pos + 2)).2.kind = 0) : (fun0 S pos).2 = (num0 S 2 (pos + 2)).2 := by
  have e : Rs.num S 2 ⟨pos, 0, 0⟩ = num0 S 2 pos := rfl
  have e2 : Rs.num S 2 (num0 S 2 pos).2 = num0 S 2 (pos + 2) := by rw [(num0_good h).1]; rfl
  have e3 : Rs.num S 2 (num0 S 2 (pos + 2)).2 = (0, (num0 S 2 (pos + 2)).2) := by unfold Rs.num; rw [if_neg h2]
  unfold fun0 funR funTail
  rw [e, e2, e3]
  rfl
theorem fun0_c {S : ByteArray} {pos : Nat} (h : (num0 S 2 pos).2.kind = 0) (h2 : (num0 S 2 (pos + 2)).2.kind = 0) : fun0 S pos = (⟨(num0 S 2 pos).1, (num0 S 2 (pos + 2)).1, (insL S (pos + 2 + 2)).1⟩, (insL S (pos + 2 + 2)).2) := by
  have e : Rs.num S 2 ⟨pos, 0, 0⟩ = num0 S 2 pos := rfl
  have e2 : Rs.num S 2 (num0 S 2 pos).2 = num0 S 2 (pos + 2) := by rw [(num0_good h).1]; rfl
  have e3 : Rs.num S 2 (num0 S 2 (pos + 2)).2 = num0 S 2 (pos + 2 + 2) := by rw [(num0_good h2).1]; rfl
  unfold fun0 funR funTail
  rw [e, e2, e3]
  rfl
inductive FunPost (w : World) (rp : Nat) (S : ByteArray) (f : Fn) (r : Rs) (e : Ending) (w' : World) : Prop
  | mk (a b : Int) (q : Option Addr) (m cap : Nat) (he : e = .returned (.tuple #[.agg #[.int .i64 a, .int .i64 b, .slice q m cap], evR r.kind r.fat])) (hr : r.kind = 0 → a = f.free ∧ b = f.slots ∧ m = f.ins.length ∧ InsIn w' q f.ins ∧ (∀ b, q = some b → w.heap.size ≤ b.block ∧ b.block < w'.heap.size) ∧ PBox w' rp S r.pos ∧ r.fat = 0 ∧ r.pos ≤ S.size ∧ f.ins.length ≤ 65535) (hk : Kp [rp] w w') : FunPost w rp S f r e w'
section
set_option maxHeartbeats 8000000
set_option maxRecDepth 100000
theorem fun_read (w : World) (rp : Nat) (S : ByteArray) (pos : Nat) (h : PBox w rp S pos) (hSh : ShIn w) (hrp : 1 ≠ rp) (hS : S.size ≤ 4000000) (hp : pos ≤ 4000000) : Calls Tryd.prog 39 #[.pointer (some ⟨rp, 0, none⟩)] w fun e w' => FunPost w rp S (fun0 S pos).1 (fun0 S pos).2 e w' := by
  have hU0 : UW w rp w.heap.size 0 0 none 0 0 (w.alloc (.cells #[.int .i64 0, .int .i64 0, .slice none 0 0] 50)) := ⟨(MapKept.heap_alloc w _).1, Kp.alloc _ _ _, by have := h.lt; omega, Nat.le_refl _⟩
  have hP0 : PBox (w.alloc (.cells #[.int .i64 0, .int .i64 0, .slice none 0 0] 50)) rp S pos := h.kp (Kp.alloc [] _ _) (by simp)
  have HU0 : Hid (UW w rp w.heap.size 0 0 none 0 0 _) := hU0
  have HP0 : Hid (PBox _ rp S pos) := hP0
  have HSh : Hid (∀ wx, Kp [rp] w wx → ShIn wx) := fun wx hx => hSh.of_block (hx.block 1 hSh.lt (by simpa using hrp))
  have Hg1 : Hid _ := num0_good (S := S) (n := 2) (pos := pos)
  have Hg2 : Hid _ := num0_good (S := S) (n := 2) (pos := pos + 2)
  have Ha : Hid _ := fun0_a (S := S) (pos := pos)
  have Hb : Hid _ := fun0_b (S := S) (pos := pos)
  have Hcc : Hid _ := fun0_c (S := S) (pos := pos)
  have Hc1 : Hid _ := two_read _ rp S pos hP0 hS hp
  have Hc2 : Hid (∀ wx : World, PBox wx rp S ((pos + 2 : Nat) : Int) → pos + 2 ≤ 4000000 → _) := fun wx hx hl => two_read wx rp S (pos + 2) hx hS hl
  have Hc3 : Hid (∀ wx : World, PBox wx rp S ((pos + 2 + 2 : Nat) : Int) → ShIn wx → pos + 2 + 2 ≤ 4000000 → _) := fun wx hx hs hl => insL_read wx rp S (pos + 2 + 2) hx hs hrp hS hl
  obtain ⟨R, hR⟩ : ∃ R, R = fun0 S pos := ⟨_, rfl⟩
  rw [← hR] at Ha Hb Hcc ⊢
  clear hU0 hP0 hSh h hR
  generalize num0 S 2 pos = A at *
  generalize num0 S 2 (pos + 2) = B at *
  generalize insL S (pos + 2 + 2) = C at *
  obtain ⟨av, r1⟩ := A
  obtain ⟨bv, r2⟩ := B
  obtain ⟨l, r3⟩ := C
  simp only at Hg1 Hg2 Ha Hb Hcc Hc1 Hc2 Hc3
  go_enter Tryd.func39, Tryd.ntmps39
  go_upto_region 1 with fail
  generalize w.alloc (.cells #[.int .i64 0, .int .i64 0, .slice none 0 0] 50) = w0 at *
  go_wp2_with fail
  refine Calls.mono Hc1.out ?_
  rintro e1 w1 ⟨rfl, p1, k1⟩
  have HU1 : Hid (UW w rp w.heap.size 0 0 none 0 0 w1) := UW.call HU0.out k1
  have HP1 : Hid (PBox w1 rp S r1.pos) := p1
  clear p1 k1 Hc1 HU0 HP0
  obtain ⟨x0, x1, x2, xf⟩ := HU1.out.xb.cells
  have xf0 := xf 0
  have xf1 := xf 1
  have xf2 := xf 2
  have xl := HU1.out.xb.lt
  clear xf
  have HU2 : Hid (UW w rp w.heap.size av 0 none 0 0 (w1.setCell ⟨w.heap.size, 0, none⟩ (.int .i64 av))) := HU1.out.p0 av
  have HP2 : Hid (PBox (w1.setCell ⟨w.heap.size, 0, none⟩ (.int .i64 av)) rp S r1.pos) := PBox.kp HP1.out (Kp.setCell (X := [w.heap.size]) _ ⟨w.heap.size, 0, none⟩ (by simp) _) (by simpa using Ne.symm HU1.out.xr)
  go_upto_region 2 with fail
  clear x0 x1 x2 xf0 xf1 xf2 xl
  generalize w1.setCell ⟨w.heap.size, 0, none⟩ (.int .i64 av) = w2 at *
  obtain ⟨x0, x1, x2, xf⟩ := HU2.out.xb.cells
  have xf0 := xf 0
  have xf1 := xf 1
  have xf2 := xf 2
  have xl := HU2.out.xb.lt
  clear xf
  by_cases hz1 : ¬ r1.kind = 0
  · have hR2 := Ha.out hz1
    have Hev : Hid (evR r1.kind r1.fat = .iface 63 (.agg #[.int .i64 r1.kind, .int .i64 r1.fat])) := evR_err hz1
    have Hz : Hid (¬ r1.kind = 0) := hz1
    have HR2 : Hid (R.2 = r1) := hR2
    rw [Hev.out]
    clear hz1 Ha Hb Hcc Hc2 Hc3 Hg1 Hg2 hR2
    have hfin := HU2.out.all
    obtain ⟨z0, z1, z2, _⟩ := hfin.xb.cells
    have Hfin : Hid _ := hfin.kp
    clear hfin
    go_wp2
    exact bodyPost_ret (v := .tuple #[.agg #[.int .i64 av, .int .i64 0, .slice none 0 0], .iface 63 (.agg #[.int .i64 r1.kind, .int .i64 r1.fat])]) (by simp [results, Tryd.results39, go_sem, z0, z1, z2]) rfl ⟨av, 0, none, 0, 0, by rw [HR2.out, Hev.out], fun h => absurd (HR2.out ▸ h) Hz.out, Hfin.out⟩
  replace hz1 : r1.kind = 0 := Decidable.not_not.1 hz1
  obtain ⟨e1, hl1⟩ := Hg1.out hz1
  subst e1
  rw [evR_nil rfl]
  have Hc : Hid _ := Hc2.out w2 HP2.out (by omega)
  clear Hc2 Ha
  go_wp2_with fail
  refine Calls.mono Hc.out ?_
  rintro e3 w3 ⟨rfl, p3, k3⟩
  have HU3 : Hid (UW w rp w.heap.size av 0 none 0 0 w3) := UW.call HU2.out k3
  have HP3 : Hid (PBox w3 rp S r2.pos) := p3
  clear p3 k3 Hc HU2 HP2
  clear x0 x1 x2 xf0 xf1 xf2 xl
  obtain ⟨x0, x1, x2, xf⟩ := HU3.out.xb.cells
  have xf0 := xf 0
  have xf1 := xf 1
  have xf2 := xf 2
  have xl := HU3.out.xb.lt
  clear xf
  have HU4 : Hid (UW w rp w.heap.size av bv none 0 0 (w3.setCell ⟨w.heap.size, 1, none⟩ (.int .i64 bv))) := HU3.out.p1 bv
  have HP4 : Hid (PBox (w3.setCell ⟨w.heap.size, 1, none⟩ (.int .i64 bv)) rp S r2.pos) := PBox.kp HP3.out (Kp.setCell (X := [w.heap.size]) _ ⟨w.heap.size, 1, none⟩ (by simp) _) (by simpa using Ne.symm HU3.out.xr)
  go_upto_region 5 with fail
  clear x0 x1 x2 xf0 xf1 xf2 xl
  generalize w3.setCell ⟨w.heap.size, 1, none⟩ (.int .i64 bv) = w4 at *
  obtain ⟨x0, x1, x2, xf⟩ := HU4.out.xb.cells
  have xf0 := xf 0
  have xf1 := xf 1
  have xf2 := xf 2
  have xl := HU4.out.xb.lt
  clear xf
  by_cases hz2 : ¬ r2.kind = 0
  · have hR2 := Hb.out (by first | rfl | trivial) hz2
    have Hev : Hid (evR r2.kind r2.fat = .iface 63 (.agg #[.int .i64 r2.kind, .int .i64 r2.fat])) := evR_err hz2
    have Hz : Hid (¬ r2.kind = 0) := hz2
    have HR2 : Hid (R.2 = r2) := hR2
    rw [Hev.out]
    clear hz1 hz2 Hb Hcc Hc3 Hg1 Hg2 hR2
    have hfin := HU4.out.all
    obtain ⟨z0, z1, z2, _⟩ := hfin.xb.cells
    have Hfin : Hid _ := hfin.kp
    clear hfin
    go_wp2
    exact bodyPost_ret (v := .tuple #[.agg #[.int .i64 av, .int .i64 bv, .slice none 0 0], .iface 63 (.agg #[.int .i64 r2.kind, .int .i64 r2.fat])]) (by simp [results, Tryd.results39, go_sem, z0, z1, z2]) rfl ⟨av, bv, none, 0, 0, by rw [HR2.out, Hev.out], fun h => absurd (HR2.out ▸ h) Hz.out, Hfin.out⟩
  replace hz2 : r2.kind = 0 := Decidable.not_not.1 hz2
  obtain ⟨e2, hl2⟩ := Hg2.out hz2
  subst e2
  have hR2 := Hcc.out (by first | rfl | trivial) (by first | rfl | trivial)
  subst hR2
  rw [evR_nil rfl]
  have Hc : Hid _ := Hc3.out w4 HP4.out (HSh.out w4 HU4.out.kp) (by omega)
  clear Hc3 Hb Hcc Hg1 Hg2 hz1 hz2
  go_wp2_with fail
  refine Calls.mono Hc.out ?_
  rintro e5 w5 ⟨q, m, cap, rfl, hq, k5⟩
  have HU5 : Hid (UW w rp w.heap.size av bv none 0 0 w5) := UW.call HU4.out k5
  have HK5 : Hid (w4.heap.size ≤ w5.heap.size ∧ w.heap.size ≤ w4.heap.size) := ⟨k5.size, Kp.size HU4.out.kp⟩
  have Hq : Hid _ := hq
  clear hq k5 Hc
  clear x0 x1 x2 xf0 xf1 xf2 xl
  obtain ⟨x0, x1, x2, xf⟩ := HU5.out.xb.cells
  have xf0 := xf 0
  have xf1 := xf 1
  have xf2 := xf 2
  have xl := HU5.out.xb.lt
  clear xf
  generalize hev : evR r3.kind r3.fat = ev at *
  have Hev : Hid (evR r3.kind r3.fat = ev) := hev
  clear hev
  have HU6 : Hid (UW w rp w.heap.size av bv q m cap (w5.setCell ⟨w.heap.size, 2, none⟩ (.slice q m cap))) := HU5.out.p2 q m cap
  have HK6 : Hid (Kp [w.heap.size] w5 (w5.setCell ⟨w.heap.size, 2, none⟩ (.slice q m cap))) := Kp.setCell w5 ⟨w.heap.size, 2, none⟩ (by simp) _
  have Hlt : Hid (w.heap.size < w4.heap.size) := HU4.out.xb.lt
  go_upto_region 8 with fail
  clear x0 x1 x2 xf0 xf1 xf2 xl
  generalize w5.setCell ⟨w.heap.size, 2, none⟩ (.slice q m cap) = w6 at *
  obtain ⟨x0, x1, x2, xf⟩ := HU6.out.xb.cells
  have xf0 := xf 0
  have xf1 := xf 1
  have xf2 := xf 2
  have xl := HU6.out.xb.lt
  clear xf
  have hk7 : Kp [w.heap.size] w6 (((w6.setCell ⟨w.heap.size, 0, none⟩ (.int .i64 av)).setCell ⟨w.heap.size, 1, none⟩ (.int .i64 bv)).setCell ⟨w.heap.size, 2, none⟩ (.slice q m cap)) := ((Kp.setCell w6 ⟨w.heap.size, 0, none⟩ (by simp) _).trans (Kp.setCell _ ⟨w.heap.size, 1, none⟩ (by simp) _)).trans (Kp.setCell _ ⟨w.heap.size, 2, none⟩ (by simp) _)
  have HK7 : Hid (Kp [w.heap.size] w5 _) := Kp.trans HK6.out hk7
  clear hk7
  have Hres : Hid (r3.kind = 0 → m = l.length ∧ InsIn (((w6.setCell ⟨w.heap.size, 0, none⟩ (.int .i64 av)).setCell ⟨w.heap.size, 1, none⟩ (.int .i64 bv)).setCell ⟨w.heap.size, 2, none⟩ (.slice q m cap)) q l ∧ (∀ b, q = some b → w.heap.size ≤ b.block ∧ b.block < (((w6.setCell ⟨w.heap.size, 0, none⟩ (.int .i64 av)).setCell ⟨w.heap.size, 1, none⟩ (.int .i64 bv)).setCell ⟨w.heap.size, 2, none⟩ (.slice q m cap)).heap.size) ∧ PBox (((w6.setCell ⟨w.heap.size, 0, none⟩ (.int .i64 av)).setCell ⟨w.heap.size, 1, none⟩ (.int .i64 bv)).setCell ⟨w.heap.size, 2, none⟩ (.slice q m cap)) rp S r3.pos ∧ r3.fat = 0 ∧ r3.pos ≤ S.size ∧ l.length ≤ 65535) := fun hz => by
    obtain ⟨a1, a2, a3, a4, a5, a6, a7⟩ := Hq.out hz
    have hlt := Hlt.out
    refine ⟨a1, a2.kp HK7.out (fun b hb => ?_), fun b hb => ⟨?_, ?_⟩, a4.kp HK7.out (by simpa using Ne.symm HU5.out.xr), a5, a6, a7⟩
    · have := (a3 b hb).1
      simp only [List.mem_singleton]
      omega
    · have := (a3 b hb).1
      have := HK5.out.2
      omega
    · exact Nat.lt_of_lt_of_le (a3 b hb).2 HK7.out.size
  have hfin := HU6.out.all
  obtain ⟨z0, z1, z2, _⟩ := hfin.xb.cells
  have Hfin : Hid _ := hfin.kp
  clear hfin
  go_wp2
  exact bodyPost_ret (v := .tuple #[.agg #[.int .i64 av, .int .i64 bv, .slice q m cap], ev]) (by simp [results, Tryd.results39, go_sem, z0, z1, z2]) rfl ⟨av, bv, q, m, cap, by rw [Hev.out], fun h => ⟨rfl, rfl, Hres.out h⟩, Hfin.out⟩
end
end Go.Proofs.YtimdjcffmajmnaaDoor
