/-
  The law's own word: two rows of binds that say the same are the same.
-/
import Derived.Test.YtbgpjaniohpfaaaK21
import Derived.Test.YtbgpjaniohpfaaaP3
namespace Go.Proofs.Ytbgpjaniohpfaaa
open Go.RowKit Go.Deep
theorem belowR_drewN {B : Nat} {w w' : World} (h : Below B w w') (n : Nat) : Below B w (w'.drewN n) := ⟨h.os, h.tape, h.output, h.size, h.block⟩
mutual
theorem Ty.same_self : ∀ T : Ty, T.same T = true
  | .mk k n s e r => by
    unfold Ty.same
    simp [Ty.sameL_self r]
theorem Ty.sameL_self : ∀ r : List Ty, Ty.sameL r r = true
  | [] => by unfold Ty.sameL; rfl
  | a :: r => by
    unfold Ty.sameL
    rw [Ty.same_self a, Ty.sameL_self r]
    rfl
end
set_option maxHeartbeats 4000000 in
set_option maxRecDepth 100000 in
theorem sameBinds_row (w : World) (p p' : Option Addr) (cap cap' : Nat) (Bs : List (Int × Ty)) (hA : BindsRow w p Bs) (hB : BindsRow w p' Bs) :
    Calls Try.prog 12 #[.slice p Bs.length cap, .slice p' Bs.length cap'] w fun e w' => e = .returned (.bool true) ∧ Below w.heap.size w w' := by
  have hlen := hA.len
  have HA : Hid (BindsRow w p Bs) := hA
  have HB : Hid (BindsRow w p' Bs) := hB
  clear hA hB
  go_enter Try.func12, Try.ntmps12
  go_wp2_with fail
  go_loopw [5] (fun a wr => ∃ i : Nat, a = .int .i64 i ∧ i ≤ Bs.length ∧ Below w.heap.size w wr) (fun a _ => Bs.length - (intOf a).toNat)
  case atStart => exact ⟨0, rfl, by omega, Below.refl _ _⟩
  case round =>
    rename_i wr
    obtain ⟨i, rfl, hil, hbe⟩ := hrel
    by_cases hi : i < Bs.length
    · have hi' : (i : Int) < Bs.length := by omega
      obtain ⟨g, o, rfl, hgw, hc⟩ := HA.out.get i hi
      obtain ⟨g', o', rfl, hgw', hc'⟩ := HB.out.get i hi
      generalize Bs[i]'hi = pr at *
      cases hc with
      | mk x k1 n1 s1 e1 l1 p1 cap1 c0 c1 c2 c3 c4 c5 t1 =>
      generalize hpr : (x, Ty.mk k1 n1 s1 e1 l1) = pr at *
      cases hc' with
      | mk x' k2 n2 s2 e2 l2 p2 cap2 d0 d1 d2 d3 d4 d5 t2 =>
      simp only [Prod.mk.injEq, Ty.mk.injEq] at hpr
      obtain ⟨rfl, rfl, rfl, rfl, rfl, rfl⟩ := hpr
      rw [← hbe.cell (p := ⟨g, o + i * 6, none⟩) hgw] at c0
      rw [← hbe.cell (p := ⟨g, o + i * 6 + 1, none⟩) hgw] at c1
      rw [← hbe.cell (p := ⟨g, o + i * 6 + 2, none⟩) hgw] at c2
      rw [← hbe.cell (p := ⟨g, o + i * 6 + 3, none⟩) hgw] at c3
      rw [← hbe.cell (p := ⟨g, o + i * 6 + 4, none⟩) hgw] at c4
      rw [← hbe.cell (p := ⟨g, o + i * 6 + 5, none⟩) hgw] at c5
      rw [← hbe.cell (p := ⟨g', o' + i * 6, none⟩) hgw'] at d0
      rw [← hbe.cell (p := ⟨g', o' + i * 6 + 1, none⟩) hgw'] at d1
      rw [← hbe.cell (p := ⟨g', o' + i * 6 + 2, none⟩) hgw'] at d2
      rw [← hbe.cell (p := ⟨g', o' + i * 6 + 3, none⟩) hgw'] at d3
      rw [← hbe.cell (p := ⟨g', o' + i * 6 + 4, none⟩) hgw'] at d4
      rw [← hbe.cell (p := ⟨g', o' + i * 6 + 5, none⟩) hgw'] at d5
      have hgr := Nat.lt_of_lt_of_le hgw hbe.size
      have hgr' := Nat.lt_of_lt_of_le hgw' hbe.size
      have hd : Below wr.heap.size wr wr.drew := (Below.refl _ _).drew
      have hsm := lawSame_any _ _ wr.drew _ _ ((t1.keep hbe).keep hd) ((t2.keep hbe).keep hd)
      rw [Ty.same_self] at hsm
      have Hsm : Hid _ := hsm
      clear t1 t2 hsm
      go_wp2_with fail
      go_region_with (go_at_call 28; refine Calls.mono Hsm.out ?_; rintro e9 w5 ⟨rfl, hb5⟩; have hn5 := Below.then hd hb5 (Nat.le_refl _))
      all_goals have f0 := (hn5.cell (p := ⟨g, o + i * 6, none⟩) hgr).trans c0
      all_goals have f1 := (hn5.cell (p := ⟨g', o' + i * 6, none⟩) hgr').trans d0
      all_goals have f2 := Nat.lt_of_lt_of_le hgr hn5.size
      all_goals have f3 := Nat.lt_of_lt_of_le hgr' hn5.size
      all_goals have hbe5 := Below.then hbe hn5 (Nat.le_refl _)
      all_goals clear c0 c1 c2 c3 c4 c5 d0 d1 d2 d3 d4 d5 hn5 hb5 Hsm hd
      all_goals go_wp2_with fail
      all_goals go_quiet (fail)
      all_goals go_wp2
      all_goals exact ⟨⟨i + 1, by go_num, by omega, belowR_drewN hbe5 _⟩, by simp [intOf]; omega⟩
    · have hi' : ¬ (i : Int) < Bs.length := by omega
      go_wp2
      go_ret
      exact ⟨rfl, hbe⟩
end Go.Proofs.Ytbgpjaniohpfaaa
