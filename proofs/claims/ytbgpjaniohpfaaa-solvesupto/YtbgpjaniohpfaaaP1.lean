/-
  The second reader of types: how many parts a type has.
-/
import Derived.Test.YtbgpjaniohpfaaaRows
import Derived.Test.YtbgpjaniohpfaaaTp
namespace Go.Proofs.Ytbgpjaniohpfaaa
open Go.RowKit
open Go.Proofs.Ytbgpjaniohpfaaa
set_option maxHeartbeats 1000000 in
set_option maxRecDepth 100000 in
theorem parts_any : ∀ (T : Ty) (w : World) (cs : List Value) (most : Int), TyIn w cs T → 0 ≤ most → most ≤ 400 →
    Calls Try.prog 19 #[.agg cs.toArray, .int .i64 most] w fun e w' => e = .returned (.int .i64 (T.parts most)) ∧ Below w.heap.size w w' := by
  intro T
  induction T using Ty.ind with
  | h k n s e l ih =>
    intro w cs most hT h0 h1
    obtain ⟨p, cap, rfl, hl1, hl2, hel⟩ := hT.elem
    have Hel : Hid _ := hel
    have Hih : Hid _ := ih
    clear hel ih hT
    unfold maxLen at hl1
    have hR : (Ty.mk k n s e l).parts most = Ty.partsL (l.drop 0) 1 most := by unfold Ty.parts; rfl
    rw [hR]
    clear hR
    generalize hR : Ty.partsL (l.drop 0) 1 most = R
    have HR : Hid _ := hR
    clear hR
    go_enter Try.func19, Try.ntmps19
    go_wp2_with fail
    have hb3 := (Below.refl w.heap.size w).alloc (Nat.le_refl _) (Obj.cells #[Value.int IntKind.i64 k, Value.int IntKind.i64 n, Value.string s, Value.int IntKind.i64 e, Value.slice p l.length cap] 33)
    have hc4 : (w.alloc (Obj.cells #[Value.int IntKind.i64 k, Value.int IntKind.i64 n, Value.string s, Value.int IntKind.i64 e, Value.slice p l.length cap] 33)).cell? ⟨w.heap.size, 4, none⟩ = some (.slice p l.length cap) := by simp [go_sem]
    have hz3 : w.heap.size < (w.alloc (Obj.cells #[Value.int IntKind.i64 k, Value.int IntKind.i64 n, Value.string s, Value.int IntKind.i64 e, Value.slice p l.length cap] 33)).heap.size := by simp
    generalize w.alloc (Obj.cells #[Value.int IntKind.i64 k, Value.int IntKind.i64 n, Value.string s, Value.int IntKind.i64 e, Value.slice p l.length cap] 33) = w3 at *
    have Hc4 : Hid _ := hc4
    clear hc4
    go_loopw [5, 6] (fun a b wr => ∃ (m : Int) (i : Nat), a = .int .i64 m ∧ b = .int .i64 i ∧ 1 ≤ m ∧ m ≤ most + 1 ∧ i ≤ l.length ∧ Below w3.heap.size w3 wr ∧ Hid (R = Ty.partsL (l.drop i) m most)) (fun _ b _ => l.length - (intOf b).toNat)
    case atStart => exact ⟨1, 0, rfl, rfl, by omega, by omega, by omega, Below.refl _ _, HR.out.symm⟩
    case round =>
      clear HR
      rename_i wr
      obtain ⟨m, i, rfl, rfl, hm1, hm2, hi1, hbe, Hs⟩ := hrel
      have hb : Below w.heap.size w wr := hb3.trans (hbe.mono (Nat.le_of_lt hz3))
      have hc4 : wr.cell? ⟨w.heap.size, 4, none⟩ = some (.slice p l.length cap) := (hbe.cell (p := ⟨w.heap.size, 4, none⟩) hz3).trans Hc4.out
      have hzr := Nat.lt_of_lt_of_le hz3 hbe.size
      by_cases hi : i < l.length
      · have hi' : (i : Int) < l.length := by omega
        by_cases hm : m ≤ most
        · obtain ⟨b, o, k', n', s', e', l', p', cap', rfl, hli, g0, g1, g2, g3, g4, hbw, hty⟩ := Hel.out i hi
          rw [← hb.cell (p := ⟨b, o + i * 5, none⟩) hbw] at g0
          rw [← hb.cell (p := ⟨b, o + i * 5 + 1, none⟩) hbw] at g1
          rw [← hb.cell (p := ⟨b, o + i * 5 + 2, none⟩) hbw] at g2
          rw [← hb.cell (p := ⟨b, o + i * 5 + 3, none⟩) hbw] at g3
          rw [← hb.cell (p := ⟨b, o + i * 5 + 4, none⟩) hbw] at g4
          have hbr := Nat.lt_of_lt_of_le hbw hb.size
          have hcall := fun w hty => Hih.out i hi w [.int .i64 k', .int .i64 n', .string s', .int .i64 e', .slice p' l'.length cap'] (most - m) hty (by omega) (by omega)
          have Hcall : Hid _ := hcall
          have hty' := hty.keep hb
          have Hs' : Hid (R = Ty.partsL (l.drop (i + 1)) (m + (l[i]'hi).parts (most - m)) most) := by
            unfold Hid
            rw [← Ty.partsL_step l i hi m most hm]
            exact Hs.out
          have hpb := Ty.parts_bounds (l[i]'hi) (most - m) (by omega)
          generalize (l[i]'hi).parts (most - m) = q at *
          clear hty hli Hs hcall Hih Hel Hc4
          have Hty : Hid _ := hty'
          clear hty'
          go_wp2_with fail
          refine (Hcall.out _ Hty.out).mono ?_
          rintro e w4 ⟨rfl, hb4⟩
          have hbe4 := Below.then hbe hb4 (Nat.le_refl _)
          clear hb4
          go_wp2
          exact ⟨⟨m + q, i + 1, rfl, by go_num, by omega, by omega, by omega, hbe4, Hs'⟩, by simp [intOf]; omega⟩
        · have Hs' : Hid (R = m) := by
            unfold Hid
            rw [Hs.out, Ty.partsL_over _ _ _ hm]
          clear Hs
          go_wp2
          go_ret
          exact ⟨ret_int Hs'.out.symm, hb⟩
      · have hi' : ¬ (i : Int) < l.length := by omega
        have Hs' : Hid (R = m) := by
          unfold Hid
          rw [Hs.out, List.drop_of_length_le (by omega), Ty.partsL_end]
        clear Hs
        go_wp2
        go_ret
        exact ⟨ret_int Hs'.out.symm, hb⟩
end Go.Proofs.Ytbgpjaniohpfaaa
