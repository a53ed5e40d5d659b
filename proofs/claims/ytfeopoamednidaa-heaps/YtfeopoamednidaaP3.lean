/-
  The program's heap as its owner has it; Set.
-/
import Derived.Test.YtfeopoamednidaaP2
namespace Go.Proofs.Ytfeopoamednidaa
open Go.RowKit Go.Deep Go.IntWalk
/-- The program's heap, of one's own. -/
structure HpO (w : World) (hb : Nat) (cells first : Int) (v : Value) (ws : List Wd) : Prop where
  box : w.heap[hb]? = some (.cells #[.int .i64 cells, .int .i64 first, v] 43)
  own : OwnW w v ws
  len : ws.length ≤ 1000000
  pos : 0 < first ∧ first ≤ 9000000000000000000
theorem HpO.at {w : World} {hb : Nat} {cells first : Int} {v : Value} {ws : List Wd} (h : HpO w hb cells first v ws) : ∃ p cap, v = .slice p ws.length cap ∧ HpAt w hb 0 cells first p cap ws ∧ (∀ a, p = some a → a = ⟨a.block, 0, none⟩ ∧ v.ownBlock = some a.block) := by
  obtain ⟨p, cap, rfl, hc, hr, _, ha⟩ := h.own.at h.len
  have hb' := h.box
  exact ⟨p, cap, rfl, ⟨by simp only [World.cell?, hb']; rfl, by simp only [World.cell?, hb']; rfl, by simp only [World.cell?, hb']; rfl, hr, h.pos, hc⟩, ha⟩
theorem HpO.kp {X : List Nat} {w w' : World} {hb : Nat} {cells first : Int} {v : Value} {ws : List Wd} (h : HpO w hb cells first v ws) (hk : Kp X w w') (hX : hb ∉ X) (hY : ∀ k, v.ownBlock = some k → k ∉ X) : HpO w' hb cells first v ws :=
  ⟨(hk.block hb (Array.getElem?_eq_some_iff.1 h.box).1 hX).trans h.box, h.own.kp hk hY, h.len, h.pos⟩
/-- A field's word. -/
def fld (c : Cl) : Wd := ⟨c.n, 0, 0, 0, if c.p = true then 1 else 0⟩
theorem fld_cl (c : Cl) : (fld c).cl = c := by
  obtain ⟨p, n⟩ := c
  cases p <;> rfl
section
set_option maxHeartbeats 8000000
set_option maxRecDepth 100000
inductive SetPost (w : World) (hb : Nat) (cells first : Int) (v : Value) (ws : List Wd) (k : Nat) (c : Cl) : Ending → World → Prop
  | mk (w' : World) (h1 : HpO w' hb cells first v (ws.set k (fld c))) (h2 : Kp v.ownBlock.toList w w') : SetPost w hb cells first v ws k c (.returned (.tuple #[])) w'
theorem set_any (w : World) (hb : Nat) (cells first : Int) (v : Value) (ws : List Wd) (h : HpO w hb cells first v ws) (j : Nat) (x : Wd) (hx : Hd ws j x) (i : Nat) (hi : (i : Int) < x.n) (c : Cl) :
    Calls Try.prog 13 #[.pointer (some ⟨hb, 0, none⟩), .int .i64 (first + j), .int .i64 i, c.val] w fun e w' => SetPost w hb cells first v ws (j + 1 + i) c e w' := by
  obtain ⟨p, cap, rfl, hA, ha⟩ := h.at
  obtain ⟨cp, cn⟩ := c
  simp only [Cl.val]
  have hk1 : Kp [] w (w.alloc (.cells #[.bool cp, .int .i64 cn] 50)) := Kp.alloc _ _ _
  have Hg1 : Hid ((w.alloc (.cells #[.bool cp, .int .i64 cn] 50)).heap[w.heap.size]? = some (.cells #[.bool cp, .int .i64 cn] 50)) := alloc_get w _
  have Hk1 : Hid (Kp [] w (w.alloc (.cells #[.bool cp, .int .i64 cn] 50))) := hk1
  have Hcall : Hid _ := fieldP_any _ hb 0 cells first p cap ws (hA.kp hk1) j x hx i hi
  have hf := hx.fits
  have hn := hx.n
  have hkl : j + 1 + i < ws.length := by omega
  have H : Hid (HpO w hb cells first (.slice p ws.length cap) ws) := h
  have Ha : Hid (∀ a, p = some a → a = ⟨a.block, 0, none⟩ ∧ Value.ownBlock (.slice p ws.length cap) = some a.block) := ha
  clear h hx hA hk1 hf hn ha
  go_enter Try.func13, Try.ntmps13
  go_wp2_with fail
  generalize w.alloc (.cells #[.bool cp, .int .i64 cn] 50) = w1 at *
  refine Calls.mono Hcall.out ?_
  rintro e w2 ⟨⟨b, hp, rfl⟩, hb2⟩
  have hob : Value.ownBlock (.slice p ws.length cap) = some b := (Ha.out _ hp).2
  have hK2 : Kp [] w w2 := Hk1.out.trans (Kp.of_below hb2)
  have hO2 : HpO w2 hb cells first (.slice p ws.length cap) ws := H.out.kp hK2 (by simp) (by simp)
  have hbl : b < w.heap.size := H.out.own.lt hob
  have hbx : w2.heap[w.heap.size]? = some (.cells #[.bool cp, .int .i64 cn] 50) := (hb2.block _ (Array.getElem?_eq_some_iff.1 Hg1.out).1).trans Hg1.out
  have hlt := (Array.getElem?_eq_some_iff.1 hbx).1
  have hne : w.heap.size ≠ b := by omega
  have hc0 : w2.cell? ⟨w.heap.size, 0, none⟩ = some (.bool cp) := by simp only [World.cell?, hbx]; rfl
  have hc1 : w2.cell? ⟨w.heap.size, 1, none⟩ = some (.int .i64 cn) := by simp only [World.cell?, hbx]; rfl
  obtain ⟨q0, c0, hv0, _, hr0, _, ha0⟩ := hO2.own.at hO2.len
  cases hv0
  have hy : ws[j + 1 + i]? = some (ws[j + 1 + i]'hkl) := List.getElem?_eq_getElem hkl
  obtain ⟨b', hp', ⟨g0, g1, g2, g3, g4⟩, g5⟩ := hr0.at_ hy
  rw [hp] at hp'
  cases hp'
  rw [show 0 + (j + 1 + i) * 5 = j * 5 + (i + 1) * 5 by omega] at g0 g1 g2 g3 g4
  have hfz : ∀ off, w2.frozen? ⟨b, off, none⟩ = false := fun off => ownsRow_frozen hO2.own hob off
  have z0 := hfz (j * 5 + (i + 1) * 5)
  have z1 := hfz (j * 5 + (i + 1) * 5 + 1)
  have z2 := hfz (j * 5 + (i + 1) * 5 + 2)
  have z3 := hfz (j * 5 + (i + 1) * 5 + 3)
  have z4 := hfz (j * 5 + (i + 1) * 5 + 4)
  have hown5 : ∀ m : Int, OwnW (((((w2.setCell ⟨b, j * 5 + (i + 1) * 5, none⟩ (.int .i64 cn)).setCell ⟨b, j * 5 + (i + 1) * 5 + 1, none⟩ (.int .i32 0)).setCell ⟨b, j * 5 + (i + 1) * 5 + 2, none⟩ (.int .u16 0)).setCell ⟨b, j * 5 + (i + 1) * 5 + 3, none⟩ (.int .u8 0)).setCell ⟨b, j * 5 + (i + 1) * 5 + 4, none⟩ (.int .u8 m)) (.slice p ws.length cap) (ws.set (j + 1 + i) ⟨cn, 0, 0, 0, m⟩) := fun m => by
    have h1 := ownsRow_set (ownsRow_set (ownsRow_set (ownsRow_set (ownsRow_set hO2.own hob (j * 5 + (i + 1) * 5) (.int .i64 cn)) hob (j * 5 + (i + 1) * 5 + 1) (.int .i32 0)) hob (j * 5 + (i + 1) * 5 + 2) (.int .u16 0)) hob (j * 5 + (i + 1) * 5 + 3) (.int .u8 0)) hob (j * 5 + (i + 1) * 5 + 4) (.int .u8 m)
    have h2 := wdV_set ws (j + 1 + i) hkl ⟨cn, 0, 0, 0, m⟩
    rw [show (j + 1 + i) * 5 = j * 5 + (i + 1) * 5 by omega] at h2
    unfold OwnW
    rw [List.length_set, ← h2]
    exact h1
  have hkp5 : ∀ m : Int, Kp [b] w2 (((((w2.setCell ⟨b, j * 5 + (i + 1) * 5, none⟩ (.int .i64 cn)).setCell ⟨b, j * 5 + (i + 1) * 5 + 1, none⟩ (.int .i32 0)).setCell ⟨b, j * 5 + (i + 1) * 5 + 2, none⟩ (.int .u16 0)).setCell ⟨b, j * 5 + (i + 1) * 5 + 3, none⟩ (.int .u8 0)).setCell ⟨b, j * 5 + (i + 1) * 5 + 4, none⟩ (.int .u8 m)) := fun m =>
    ((((Kp.setCell _ ⟨b, _, none⟩ (by simp) _).trans (Kp.setCell _ ⟨b, _, none⟩ (by simp) _)).trans (Kp.setCell _ ⟨b, _, none⟩ (by simp) _)).trans (Kp.setCell _ ⟨b, _, none⟩ (by simp) _)).trans (Kp.setCell _ ⟨b, _, none⟩ (by simp) _)
  have hpost : ∀ (m : Int) (w' : World), OwnW w' (.slice p ws.length cap) (ws.set (j + 1 + i) ⟨cn, 0, 0, 0, m⟩) → Kp [b] w2 w' → ∀ cp, m = (if cp = true then 1 else 0) → SetPost w hb cells first (.slice p ws.length cap) ws (j + 1 + i) ⟨cp, cn⟩ (.returned (.tuple #[])) w' := fun m w' ho hk cp hm => by
    have hne2 : hb ≠ b := fun e => H.out.own.ne H.out.box (by decide) (e ▸ hob)
    refine SetPost.mk w' ⟨(hk.block hb (Array.getElem?_eq_some_iff.1 hO2.box).1 (by simpa using hne2)).trans hO2.box, ?_, by rw [List.length_set]; exact H.out.len, H.out.pos⟩ (by rw [hob]; exact (hK2.mono (by simp)).trans hk)
    unfold fld
    rw [← hm]
    exact ho
  have Hpost : Hid _ := hpost
  have hset6 : OwnW ((((((w2.setCell ⟨b, j * 5 + (i + 1) * 5, none⟩ (.int .i64 cn)).setCell ⟨b, j * 5 + (i + 1) * 5 + 1, none⟩ (.int .i32 0)).setCell ⟨b, j * 5 + (i + 1) * 5 + 2, none⟩ (.int .u16 0)).setCell ⟨b, j * 5 + (i + 1) * 5 + 3, none⟩ (.int .u8 0)).setCell ⟨b, j * 5 + (i + 1) * 5 + 4, none⟩ (.int .u8 0)).setCell ⟨b, j * 5 + (i + 1) * 5 + 4, none⟩ (.int .u8 1)) (.slice p ws.length cap) (ws.set (j + 1 + i) ⟨cn, 0, 0, 0, 1⟩) := by
    have hkl2 : j + 1 + i < (ws.set (j + 1 + i) ⟨cn, 0, 0, 0, 0⟩).length := by simpa using hkl
    have h1 := ownsRow_set (hown5 0) hob (j * 5 + (i + 1) * 5 + 4) (.int .u8 1)
    have h2 := wdV_set4 (ws.set (j + 1 + i) ⟨cn, 0, 0, 0, 0⟩) (j + 1 + i) hkl2 1
    rw [show (j + 1 + i) * 5 + 4 = j * 5 + (i + 1) * 5 + 4 by omega, List.getElem_set_self, List.set_set] at h2
    unfold OwnW
    rw [← h2, List.length_set]
    rw [List.length_set] at h1
    exact h1
  have Q0 : Hid _ := hpost 0 _ (hown5 0) (hkp5 0) false rfl
  have Q1 : Hid _ := hpost 1 _ hset6 ((hkp5 0).trans (Kp.setCell _ ⟨b, j * 5 + (i + 1) * 5 + 4, none⟩ (by simp) _)) true rfl
  clear hfz hpost hown5 hkp5 hset6 hO2 hK2 hb2 hr0 ha0 Hpost H Ha Hk1 Hg1
  cases cp
  · go_wp2_with fail
    go_end0
    exact Q0.out
  · go_wp2_with fail
    go_end0
    exact Q1.out
end
end Go.Proofs.Ytfeopoamednidaa
