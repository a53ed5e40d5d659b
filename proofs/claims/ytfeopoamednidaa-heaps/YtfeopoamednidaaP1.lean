/-
  The program's heap: fields read and written (field, Get).
-/
import Derived.Test.YtfeopoamednidaaP0
namespace Go.Proofs.Ytfeopoamednidaa
open Go.RowKit Go.Deep Go.IntWalk
section
set_option maxHeartbeats 8000000
set_option maxRecDepth 100000
theorem fieldP_any (w : World) (hb o : Nat) (cells first : Int) (p : Option Addr) (cap : Nat) (ws : List Wd) (h : HpAt w hb o cells first p cap ws) (j : Nat) (x : Wd) (hx : Hd ws j x) (i : Nat) (hi : (i : Int) < x.n) :
    Calls Try.prog 25 #[.pointer (some ⟨hb, o, none⟩), .int .i64 (first + j), .int .i64 i] w fun e w' => (∃ b, p = some ⟨b, 0, none⟩ ∧ e = .returned (.pointer (some ⟨b, j * 5 + (i + 1) * 5, none⟩))) ∧ Below w.heap.size w w' := by
  have Hcall : Hid _ := thing_any w hb o cells first p cap ws h j x hx
  have hlen := h.row.len
  have hf := hx.fits
  have hn := hx.n
  obtain ⟨xn, xm, xt, xk, xp⟩ := x
  simp only at hi hf hn
  obtain ⟨m, rfl⟩ : ∃ m : Nat, xn = m := ⟨xn.toNat, by omega⟩
  simp only [Int.toNat_natCast] at hf
  have h0 : ¬ ((i : Int) < 0) := by omega
  have h1 : wrap64 (m : Int) = m := wrap64_in _ (by omega)
  have h5 : wrap64 ((i : Int) + 1) = (i : Int) + 1 := wrap64_in _ (by omega)
  have h2 : ¬ ((m : Int) ≤ (i : Int)) := by omega
  have h3 : IntKind.i64.wrap ((i : Int) + 1) = ((i + 1 : Nat) : Int) := by rw [IntKind.wrap_i64]; omega
  have h4 : (((i + 1 : Nat) : Int) < ((m + 1 : Nat) : Int)) := by omega
  clear h hx hlen hf hn
  go_enter Try.func25, Try.ntmps25
  go_wp2_with fail
  refine Calls.mono Hcall.out ?_
  rintro e w2 ⟨⟨b, hp, rfl⟩, hb2⟩
  simp only [Int.toNat_natCast]
  have Q : Hid (Below w.heap.size w w2) := hb2
  clear hb2 Hcall
  go_wp2
  exact bodyPost_ret (by simp [results, Try.results25, go_sem]) rfl ⟨⟨b, hp, rfl⟩, Q.out⟩
theorem set2 {w : World} {b : Nat} {a0 a1 : Value} {ty : TypeId} (h : w.heap[b]? = some (.cells #[a0, a1] ty)) (v0 v1 : Value) : ((w.setCell ⟨b, 0, none⟩ v0).setCell ⟨b, 1, none⟩ v1).heap[b]? = some (.cells #[v0, v1] ty) := by
  simp [World.setCell, Array.getElem?_modify, h]
/-- A word as a cell. -/
def Wd.cl (x : Wd) : Cl := ⟨x.part == 1, x.n⟩
theorem RowW.at_ {w : World} {p : Option Addr} {l : List Wd} (h : RowW w p l) {k : Nat} {y : Wd} (hk : l[k]? = some y) : ∃ b, p = some ⟨b, 0, none⟩ ∧ WdAt w b 0 k y ∧ b < w.heap.size := by
  obtain ⟨hl, e⟩ := List.getElem?_eq_some_iff.1 hk
  obtain ⟨b, hp, hw⟩ := h.get k hl
  rw [e] at hw
  exact ⟨b, hp, hw, World.block_lt_of_cell? _ _ hw.1⟩
theorem get_any (w : World) (hb o : Nat) (cells first : Int) (p : Option Addr) (cap : Nat) (ws : List Wd) (h : HpAt w hb o cells first p cap ws) (j : Nat) (x : Wd) (hx : Hd ws j x) (i : Nat) (hi : (i : Int) < x.n) (y : Wd) (hy : ws[j + 1 + i]? = some y) :
    Calls Try.prog 14 #[.pointer (some ⟨hb, o, none⟩), .int .i64 (first + j), .int .i64 i] w fun e w' => e = .returned y.cl.val ∧ Below w.heap.size w w' := by
  obtain ⟨b, hp, hwd, hbl⟩ := h.row.at_ hy
  subst hp
  have hk1 : Kp [] w (w.alloc (.cells #[.bool false, .int .i64 0] 50)) := Kp.alloc _ _ _
  have hg1 := alloc_get w (.cells #[.bool false, .int .i64 0] 50)
  have Hk1 : Hid (Kp [] w _) := hk1
  have Hg1 : Hid (_ = some (Obj.cells _ _)) := hg1
  have Hcall : Hid _ := fieldP_any _ hb o cells first _ cap ws (h.kp hk1) j x hx i hi
  have Hw : Hid (∀ wx, Kp [] w wx → WdAt wx b 0 (j + 1 + i) y ∧ b < wx.heap.size) := fun wx hk => ⟨hwd.kp hk, Nat.lt_of_lt_of_le hbl hk.size⟩
  clear h hx hwd hbl hk1 hg1 hy
  go_enter Try.func14, Try.ntmps14
  go_wp2_with fail
  generalize w.alloc (.cells #[.bool false, .int .i64 0] 50) = w1 at *
  refine Calls.mono Hcall.out ?_
  rintro e w2 ⟨⟨b', hp, rfl⟩, hb2⟩
  cases hp
  have hlt1 := (Array.getElem?_eq_some_iff.1 Hg1.out).1
  have Hal : Hid (∀ wx, Kp [w.heap.size] w2 wx → (wx.cell? ⟨b, j * 5 + (i + 1) * 5, none⟩ = some (.int .i64 y.n) ∧ wx.cell? ⟨b, j * 5 + (i + 1) * 5 + 4, none⟩ = some (.int .u8 y.part) ∧ b < wx.heap.size)) := fun wx hk => by
    obtain ⟨⟨g0, g1, g2, g3, g4⟩, g5⟩ := Hw.out w2 (Hk1.out.trans (Kp.of_below hb2))
    have hne : b ≠ w.heap.size := by have := (Hw.out w (Kp.refl _ _)).2; omega
    simp only [Nat.zero_add] at g0 g4
    rw [show (j + 1 + i) * 5 = j * 5 + (i + 1) * 5 by omega] at g0 g4
    exact ⟨hk.cell g0 (by simpa using hne), hk.cell g4 (by simpa using hne), Nat.lt_of_lt_of_le g5 hk.size⟩
  have hbx : w2.heap[w.heap.size]? = some (.cells #[.bool false, .int .i64 0] 50) := (hb2.block _ hlt1).trans Hg1.out
  have Hbx : Hid (w2.heap[w.heap.size]? = some (.cells #[.bool false, .int .i64 0] 50)) := hbx
  have Q0 : Hid (Below w.heap.size w w2) := (Hk1.out.trans (Kp.of_below hb2)).below (Nat.le_refl _) (by simp)
  clear Hcall Hw hbx hlt1 hb2 Hg1
  obtain ⟨yn, ym, yt, yk, yp⟩ := y
  simp only at *
  go_wp2_with fail
  have hbd : w2.drew.heap[w.heap.size]? = some (.cells #[.bool false, .int .i64 0] 50) := Hbx.out
  obtain ⟨e0, e1, e2⟩ := Hal.out w2.drew ((Kp.refl _ _).drew)
  have hlt := (Array.getElem?_eq_some_iff.1 hbd).1
  have hc0 : w2.drew.cell? ⟨w.heap.size, 0, none⟩ = some (.bool false) := by simp only [World.cell?, hbd]; rfl
  have hc1 : w2.drew.cell? ⟨w.heap.size, 1, none⟩ = some (.int .i64 0) := by simp only [World.cell?, hbd]; rfl
  have hf0 : w2.drew.frozen? ⟨w.heap.size, 0, none⟩ = false := by simp only [World.frozen?, hbd]; rfl
  have hf1 : w2.drew.frozen? ⟨w.heap.size, 1, none⟩ = false := by simp only [World.frozen?, hbd]; rfl
  have hd0 : w2.cell? ⟨w.heap.size, 0, none⟩ = some (.bool false) := hc0
  have hd1 : w2.cell? ⟨w.heap.size, 1, none⟩ = some (.int .i64 0) := hc1
  have hg0 : w2.frozen? ⟨w.heap.size, 0, none⟩ = false := hf0
  have hg1 : w2.frozen? ⟨w.heap.size, 1, none⟩ = false := hf1
  have Hs : Hid (((w2.setCell ⟨w.heap.size, 0, none⟩ (.bool (yp == 1))).setCell ⟨w.heap.size, 1, none⟩ (.int .i64 yn)).drew.heap[w.heap.size]? = some (.cells #[.bool (yp == 1), .int .i64 yn] 50)) := set2 hbd (.bool (yp == 1)) (.int .i64 yn)
  have Q : Hid (Below w.heap.size w ((w2.setCell ⟨w.heap.size, 0, none⟩ (.bool (yp == 1))).setCell ⟨w.heap.size, 1, none⟩ (.int .i64 yn)).drew) := (((Kp.of_below (X := []) Q0.out.drew).then (Kp.setCell (X := [w.heap.size]) _ ⟨w.heap.size, 0, none⟩ (by simp) _) (by simp)).then (Kp.setCell (X := [w.heap.size]) _ ⟨w.heap.size, 1, none⟩ (by simp) _) (by simp)).below (Nat.le_refl _) (by simp)
  clear Hal Hbx hbd Q0
  go_region
  generalize ((w2.setCell ⟨w.heap.size, 0, none⟩ (.bool (yp == 1))).setCell ⟨w.heap.size, 1, none⟩ (.int .i64 yn)).drew = w3 at *
  have z0 : w3.cell? ⟨w.heap.size, 0, none⟩ = some (.bool (yp == 1)) := by simp [World.cell?, Hs.out]
  have z1 : w3.cell? ⟨w.heap.size, 1, none⟩ = some (.int .i64 yn) := by simp [World.cell?, Hs.out]
  go_wp2
  exact bodyPost_ret (v := Cl.val ⟨yp == 1, yn⟩) (by simp [results, Try.results14, go_sem, z0, z1, Cl.val]) rfl ⟨rfl, Q.out⟩
end
end Go.Proofs.Ytfeopoamednidaa
