/-
  The second reader of types: may a type be?
-/
import Derived.Test.YtbgpjaniohpfaaaP7
namespace Go.Proofs.Ytbgpjaniohpfaaa
open Go.RowKit
open Go.Proofs.Ytbgpjaniohpfaaa
def Ty.proper (T : Ty) : Bool := decide (T.parts 400 ≤ 400) && T.shaped
mutual
theorem Ty.parts_count : ∀ (T : Ty) (m : Int), T.parts m ≤ m → T.parts m = T.count
  | .mk k n s e l, m, h => by
    unfold Ty.parts at h ⊢
    unfold Ty.count
    have := Ty.partsL_count l 1 m h
    rw [this]
    omega
theorem Ty.partsL_count : ∀ (l : List Ty) (n m : Int), Ty.partsL l n m ≤ m → Ty.partsL l n m = n + Ty.countL l
  | [], n, m, h => by unfold Ty.partsL Ty.countL; omega
  | a :: l, n, m, h => by
    unfold Ty.partsL at h ⊢
    unfold Ty.countL
    split at h
    · rename_i hn
      rw [if_pos hn]
      have h2 := Ty.partsL_ge l (n + a.parts (m - n)) m
      have h3 := Ty.parts_count a (m - n) (by omega)
      rw [Ty.partsL_count l _ m h, h3]
      omega
    · omega
theorem Ty.partsL_ge : ∀ (l : List Ty) (n m : Int), n ≤ Ty.partsL l n m
  | [], n, m => by unfold Ty.partsL; omega
  | a :: l, n, m => by
    unfold Ty.partsL
    split
    · rename_i hn
      have h1 := Ty.parts_bounds a (m - n) (by omega)
      have h2 := Ty.partsL_ge l (n + a.parts (m - n)) m
      omega
    · omega
end
theorem Ty.proper_count (T : Ty) (h : T.proper = true) : T.count ≤ 400 := by
  unfold Ty.proper at h
  rw [Bool.and_eq_true, decide_eq_true_eq] at h
  have := Ty.parts_count T 400 h.1
  omega
section
set_option maxHeartbeats 2000000
set_option maxRecDepth 100000
theorem proper_any (T : Ty) (w : World) (cs : List Value) (hT : TyIn w cs T) :
    Calls Try.prog 10 #[.agg cs.toArray] w fun e w' => e = .returned (.bool T.proper) ∧ Below w.heap.size w w' := by
  have hparts := fun w hT => parts_any T w cs 400 hT (by omega) (by omega)
  have hshaped := fun w hT => shaped_any T w cs hT
  unfold Ty.proper
  have Hp : Hid _ := hparts
  have Hs : Hid _ := hshaped
  clear hparts hshaped
  have HT : Hid _ := hT
  cases T with
  | mk k n s e l =>
    obtain ⟨p, cap, rfl, _, _, _⟩ := hT.elem
    clear hT
    generalize (Ty.mk k n s e l).parts 400 = q at *
    generalize (Ty.mk k n s e l).shaped = r at *
    by_cases hq : q ≤ 400
    · have hq' := hq
      rw [decide_eq_true hq, Bool.true_and]
      go_enter Try.func10, Try.ntmps10
      go_wp2_with fail
      obtain ⟨a0, a1, a2, a3, a4, hbw0, hz0⟩ := boxed (w := w) (k := k) (n := n) (s := s) (e := e) (v := .slice p l.length cap) 33 (Below.refl _ _)
      refine (Hp.out _ (HT.out.keep ((Below.refl _ _).alloc (Nat.le_refl _) _))).mono ?_
      rintro e1 w1 ⟨rfl, hb1⟩
      obtain ⟨a0, a1, a2, a3, a4, hbw1, hz1⟩ := boxed (w := w) (k := k) (n := n) (s := s) (e := e) (v := .slice p l.length cap) 33 hb1
      clear hb1
      go_wp2_with fail
      refine (Hs.out _ (HT.out.keep hbw1)).mono ?_
      rintro e1 w2 ⟨rfl, hb2⟩
      go_wp2
      go_ret
      exact ⟨rfl, Below.then hbw1 hb2 (Nat.le_refl _)⟩
    · have hq' := hq
      rw [decide_eq_false hq, Bool.false_and]
      go_enter Try.func10, Try.ntmps10
      go_wp2_with fail
      refine (Hp.out _ (HT.out.keep ((Below.refl _ _).alloc (Nat.le_refl _) _))).mono ?_
      rintro e1 w1 ⟨rfl, hb1⟩
      obtain ⟨a0, a1, a2, a3, a4, hbw1, hz1⟩ := boxed (w := w) (k := k) (n := n) (s := s) (e := e) (v := .slice p l.length cap) 33 hb1
      clear hb1
      go_wp2
      go_ret
      exact ⟨rfl, hbw1⟩
end
end Go.Proofs.Ytbgpjaniohpfaaa
