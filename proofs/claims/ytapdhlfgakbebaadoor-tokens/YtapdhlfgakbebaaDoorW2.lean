/-
  The walk of unfit: it returns the kind and place of the first reason not to read a text, or none; nothing old changes.
-/
import Derived.Test.YtapdhlfgakbebaaDoorW1
namespace Go.Proofs.YtapdhlfgakbebaaDoor
open Go.RowKit

/-- Why a text is not to be read: the kind and the place. -/
def Lx.unfit (l : List UInt8) : Nat × Nat := if 4000 < l.length then (1, 0) else if (l.takeWhile Lx.good).length < l.length then (2, (l.takeWhile Lx.good).length) else (0, 0)
theorem good_iff (c : UInt8) : Lx.good c = true ↔ c.toNat = 9 ∨ c.toNat = 10 ∨ (32 ≤ c.toNat ∧ c.toNat ≤ 126) := by
  unfold Lx.good
  have e1 : (c = 9) ↔ (c.toNat = 9) := by rw [← UInt8.toNat_inj]; rfl
  have e2 : (c = 10) ↔ (c.toNat = 10) := by rw [← UInt8.toNat_inj]; rfl
  have e3 : (32 ≤ c) ↔ (32 ≤ c.toNat) := UInt8.le_iff_toNat_le
  have e4 : (c ≤ 126) ↔ (c.toNat ≤ 126) := UInt8.le_iff_toNat_le
  simp [e1, e2, e3, e4]
  omega
theorem good_not (c : UInt8) (h : Lx.good c = false) : c.toNat ≠ 9 ∧ c.toNat ≠ 10 ∧ (c.toNat < 32 ∨ 126 < c.toNat) := by
  have := good_iff c
  rw [h] at this
  simp at this
  omega
theorem unfit_long (l : List UInt8) (h : 4000 < l.length) : Lx.unfit l = (1, 0) := by unfold Lx.unfit; rw [if_pos h]
theorem unfit_bad (l : List UInt8) (k : Nat) (h : ¬ 4000 < l.length) (hk : (l.takeWhile Lx.good).length = k) (hkl : k < l.length) : Lx.unfit l = (2, k) := by unfold Lx.unfit; rw [if_neg h, hk, if_pos hkl]
theorem unfit_none (l : List UInt8) (h : ¬ 4000 < l.length) (hk : (l.takeWhile Lx.good).length = l.length) : Lx.unfit l = (0, 0) := by unfold Lx.unfit; rw [if_neg h, hk, if_neg (Nat.lt_irrefl _)]

set_option maxHeartbeats 400000 in
theorem unfit_any (s : ByteArray) (w : World) (hs : s.size ≤ maxLen) :
    Calls Tryd.prog 13 #[.string s] w fun e w' => e = .returned (.agg #[.int .i64 (Lx.unfit s.data.toList).1, .int .i64 (Lx.unfit s.data.toList).2]) ∧ Below w.heap.size w w' := by
  unfold maxLen at hs
  by_cases hl : 4000 < s.size
  · rw [unfit_long _ (by rw [← Lib.size_eq]; exact hl)]
    have hl' : (4000 : Int) < s.size := by omega
    clear hl
    go_enter Tryd.func13, Tryd.ntmps13
    go_wp2
    exact bodyPost_ret (v := .agg #[.int .i64 1, .int .i64 0]) (by simp [results, Tryd.results13, go_sem]) rfl ⟨rfl, ((Below.refl _ _).alloc (Nat.le_refl _) _)⟩
  · have hl' : ¬ (4000 : Int) < s.size := by omega
    go_enter Tryd.func13, Tryd.ntmps13
    go_wp2
    go_loopw [] (fun w' => ∃ pos : Nat, pos ≤ s.size ∧ w' = (w.alloc (Obj.cells #[Value.int IntKind.i64 0, Value.int IntKind.i64 0] 27)).iter s pos ∧ (s.data.toList.takeWhile Lx.good).length = pos + ((s.data.toList.drop pos).takeWhile Lx.good).length) (fun w' => s.size - w'.iterPos (w.heap.size + 1))
    case atStart => exact ⟨0, Nat.zero_le _, rfl, by simp⟩
    case round =>
      obtain ⟨pos, hle, rfl, hp⟩ := hrel
      have Hp : Hid _ := hp
      clear hp
      generalize hW1 : w.alloc (Obj.cells #[Value.int IntKind.i64 0, Value.int IntKind.i64 0] 27) = W1 at *
      have hz : W1.heap.size = w.heap.size + 1 := by rw [← hW1]; simp
      have hc0 : ∀ p, (W1.iter s p).cell? ⟨w.heap.size, 0, none⟩ = some (.int .i64 0) := by intro p; subst hW1; simp [World.iter]
      have hc1 : ∀ p, (W1.iter s p).cell? ⟨w.heap.size, 1, none⟩ = some (.int .i64 0) := by intro p; subst hW1; simp [World.iter]
      have hf0 : ∀ p, (W1.iter s p).frozen? ⟨w.heap.size, 0, none⟩ = false := by intro p; subst hW1; simp [World.iter]
      have hf1 : ∀ p, (W1.iter s p).frozen? ⟨w.heap.size, 1, none⟩ = false := by intro p; subst hW1; simp [World.iter]
      have hbe : ∀ p, Below w.heap.size w (W1.iter s p) := by intro p; subst hW1; exact ((Below.refl _ _).alloc (Nat.le_refl _) _).alloc (by simp) _
      have HW1 : Hid _ := hW1
      have Hz : Hid _ := hz
      clear hW1 hz
      by_cases hlt : pos < s.size
      · have hdr : Hid _ := drop_at s pos hlt
        cases hin : Lx.good s[pos]
        · have hG : Hid _ := unfit_bad _ pos (by rw [← Lib.size_eq]; exact hl) (front_stop hdr.out Hp.out hin) (by rw [← Lib.size_eq]; exact hlt)
          obtain ⟨g9, g10, g32⟩ := good_not _ hin
          clear hin
          by_cases ha : (s[pos]'hlt).toNat < 128
          · have hnx := fun ty => next_ascii (P := Tryd.prog) W1 (w.heap.size + 1) Hz.out s pos ty hlt ha
            generalize (s[pos]'hlt).toNat = c at *
            have h9 : ((c : Int) != 9) = true := by rw [bne_iff_ne]; omega
            have h10 : ((c : Int) != 10) = true := by rw [bne_iff_ne]; omega
            rcases g32 with g32 | g32
            all_goals go_wp2
            all_goals refine bodyPost_ret (v := .agg #[.int .i64 2, .int .i64 pos]) (by simp [results, Tryd.results13, go_sem, hc0, hc1]) rfl ⟨?_, ((hbe _).setCell (Nat.le_refl _) _).setCell (Nat.le_refl _) _⟩
            all_goals rw [hG.out]
            all_goals rfl
          · have hnx := fun ty => next_any (P := Tryd.prog) W1 (w.heap.size + 1) Hz.out s pos ty hlt
            have hd := (decode_high s pos hlt (by omega)).1
            clear g9 g10 g32
            generalize (Utf8.decode s pos).1 = c at *
            have h9 : ((c : Int) != 9) = true := by rw [bne_iff_ne]; omega
            have h10 : ((c : Int) != 10) = true := by rw [bne_iff_ne]; omega
            go_wp2
            all_goals refine bodyPost_ret (v := .agg #[.int .i64 2, .int .i64 pos]) (by simp [results, Tryd.results13, go_sem, hc0, hc1]) rfl ⟨?_, ((hbe _).setCell (Nat.le_refl _) _).setCell (Nat.le_refl _) _⟩
            all_goals rw [hG.out]
            all_goals rfl
        · have hG : Hid _ := front_step hdr.out rfl Hp.out hin
          have hin' := (good_iff _).1 hin
          clear hin
          have hnx := fun ty => next_ascii (P := Tryd.prog) W1 (w.heap.size + 1) Hz.out s pos ty hlt (by omega)
          rcases hin' with hin | hin | hin
          all_goals go_wp2
          all_goals exact ⟨⟨pos + 1, by omega, rfl, hG.out⟩, by rw [iter_pos _ _ Hz.out, iter_pos _ _ Hz.out]; omega⟩
      · have hnx := fun ty => next_end (P := Tryd.prog) W1 (w.heap.size + 1) Hz.out s pos ty hlt
        go_wp2
        refine bodyPost_ret (v := .agg #[.int .i64 0, .int .i64 0]) (by simp [results, Tryd.results13, go_sem, hc0, hc1]) rfl ⟨?_, ((hbe _).setCell (Nat.le_refl _) _).setCell (Nat.le_refl _) _⟩
        rw [unfit_none _ (by rw [← Lib.size_eq]; exact hl) (by rw [Hp.out, drop_end s pos (by omega), ← Lib.size_eq]; simp; omega)]
        rfl
end Go.Proofs.YtapdhlfgakbebaaDoor
