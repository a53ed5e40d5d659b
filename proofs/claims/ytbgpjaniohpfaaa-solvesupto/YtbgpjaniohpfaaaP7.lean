/-
  The second reader of types: is each part of a type as it may be?
-/
import Derived.Test.YtbgpjaniohpfaaaP5
import Derived.Deep.CutBlock
namespace Go.Proofs.Ytbgpjaniohpfaaa
open Go.RowKit
open Go.Proofs.Ytbgpjaniohpfaaa
theorem empty_iff (s : ByteArray) : (s.toList == []) = (s.size == 0) := by
  rw [Lib.toList_data, Lib.size_eq]
  cases s.data.toList <;> rfl
def plainOf (n : Int) (s : ByteArray) (e : Int) : Bool := s.size == 0 && n == 0 && e == 0
def headOf (k n : Int) (s : ByteArray) (e : Int) (len : Nat) : Bool :=
  if k = 0 then len == 0 && s.size == 0 && decide (0 ≤ e) && decide (e ≤ 1) else if k = 1 then decide (0 ≤ e) && decide (e ≤ 2) else if k = 2 then decide (2 ≤ len) && plainOf n s e
      else if k = 3 then len == 2 && plainOf n s e else false
theorem Ty.shaped_eq (k n : Int) (s : ByteArray) (e : Int) (l : List Ty) : (Ty.mk k n s e l).shaped = (headOf k n s e l.length && Ty.shapedL (l.drop 0)) := by
  rw [Ty.shaped, List.drop_zero]
  unfold headOf plainOf
  simp only [Bool.and_assoc]
theorem Ty.shapedL_step (l : List Ty) (i : Nat) (hi : i < l.length) : Ty.shapedL (l.drop i) = ((l[i]'hi).shaped && Ty.shapedL (l.drop (i + 1))) := by
  rw [List.drop_eq_getElem_cons hi]
  conv => lhs; unfold Ty.shapedL
section
set_option maxHeartbeats 2000000
set_option maxRecDepth 100000
theorem shaped_any : ∀ (T : Ty) (w : World) (cs : List Value), TyIn w cs T →
    Calls Try.prog 20 #[.agg cs.toArray] w fun e w' => e = .returned (.bool T.shaped) ∧ Below w.heap.size w w' := by
  intro T
  induction T using Ty.ind with
  | h k n s e l ih =>
    intro w cs hT
    obtain ⟨p, cap, rfl, hl1, hl2, hel⟩ := hT.elem
    have Hel : Hid _ := hel
    have Hih : Hid _ := ih
    clear hel ih hT
    unfold maxLen at hl1
    rw [Ty.shaped_eq]
    generalize hRR : (headOf k n s e l.length && Ty.shapedL (l.drop 0)) = R
    have HR0 : Hid (R = (headOf k n s e l.length && Ty.shapedL (l.drop 0))) := hRR.symm
    clear hRR
    go_enter Try.func20, Try.ntmps20
    go_upto_region 2 with fail
    go_cut [4] from 10 to 22 (fun a wx => a = .bool (plainOf n s e) ∧ wx = w.alloc (Obj.cells #[Value.int IntKind.i64 k, Value.int IntKind.i64 n, Value.string s, Value.int IntKind.i64 e, Value.slice p l.length cap] 33))
    case first =>
      cases h1 : (s.toList == [])
      · go_wp2
        go_meet
        refine ⟨?_, rfl⟩
        unfold plainOf
        rw [← empty_iff, h1]
        rfl
      · cases h2 : (n == 0)
        · go_wp2
          go_meet
          refine ⟨?_, rfl⟩
          unfold plainOf
          rw [← empty_iff, h1, h2]
          rfl
        · cases h3 : (e == 0)
          · go_wp2
            go_meet
            refine ⟨?_, rfl⟩
            unfold plainOf
            rw [← empty_iff, h1, h2, h3]
            rfl
          · go_wp2
            go_meet
            refine ⟨?_, rfl⟩
            unfold plainOf
            rw [← empty_iff, h1, h2, h3]
            rfl
    case rest =>
      obtain ⟨rfl, rfl⟩ := hcut
      go_upto_block 0 with fail
      go_cut [5] from 23 to 67 (fun a wx => a = .bool (headOf k n s e l.length) ∧ wx = w.alloc (Obj.cells #[Value.int IntKind.i64 k, Value.int IntKind.i64 n, Value.string s, Value.int IntKind.i64 e, Value.slice p l.length cap] 33))
      case first =>
        clear Hel Hih HR0
        by_cases hk0 : k = 0
        · have b0 := beq_t hk0
          by_cases hl0 : l.length = 0
          · have c1 : ((l.length : Int) == 0) = true := by rw [beq_iff_eq]; omega
            cases hs0 : (s.toList == [])
            · have hs1 : (s.size == 0) = false := by rw [← empty_iff]; exact hs0
              have Hh : Hid (headOf k n s e l.length = false) := by
                unfold Hid headOf
                rw [if_pos hk0, hl0, hs1]; rfl
              clear hk0 hl0 hs1
              go_wp2
              go_meet
              exact ⟨by rw [Hh.out], rfl⟩
            · have hs1 : (s.size == 0) = true := by rw [← empty_iff]; exact hs0
              by_cases he0 : 0 ≤ e
              · by_cases he1 : e ≤ 1
                · have d0 := he0
                  have d1 := he1
                  have Hh : Hid (headOf k n s e l.length = true) := by
                    unfold Hid headOf
                    rw [if_pos hk0, hl0, hs1, decide_eq_true he0, decide_eq_true he1]; rfl
                  clear hk0 hl0 hs1
                  go_wp2
                  go_meet
                  exact ⟨by rw [Hh.out], rfl⟩
                · have d1 := he1
                  have Hh : Hid (headOf k n s e l.length = false) := by
                    unfold Hid headOf
                    rw [if_pos hk0, hl0, hs1, decide_eq_true he0, decide_eq_false he1]; rfl
                  clear hk0 hl0 hs1
                  go_wp2
                  go_meet
                  exact ⟨by rw [Hh.out], rfl⟩
              · have d0 := he0
                have Hh : Hid (headOf k n s e l.length = false) := by
                  unfold Hid headOf
                  rw [if_pos hk0, hl0, hs1, decide_eq_false he0]; rfl
                clear hk0 hl0 hs1
                go_wp2
                go_meet
                exact ⟨by rw [Hh.out], rfl⟩
          · have c1 : ((l.length : Int) == 0) = false := by rw [beq_eq_false_iff_ne]; omega
            have c2 : (l.length == 0) = false := by rw [beq_eq_false_iff_ne]; exact hl0
            have Hh : Hid (headOf k n s e l.length = false) := by
              unfold Hid headOf
              rw [if_pos hk0, c2]; rfl
            clear hk0 hl0 c2
            go_wp2
            go_meet
            exact ⟨by rw [Hh.out], rfl⟩
        · have b0 := beq_f hk0
          by_cases hk1 : k = 1
          · have b1 := beq_t hk1
            by_cases he0 : 0 ≤ e
            · by_cases he1 : e ≤ 2
              · have d0 := he0
                have d1 := he1
                have Hh : Hid (headOf k n s e l.length = true) := by
                  unfold Hid headOf
                  rw [if_neg hk0, if_pos hk1, decide_eq_true he0, decide_eq_true he1]; rfl
                clear hk0 hk1
                go_wp2
                go_meet
                exact ⟨by rw [Hh.out], rfl⟩
              · have d1 := he1
                have Hh : Hid (headOf k n s e l.length = false) := by
                  unfold Hid headOf
                  rw [if_neg hk0, if_pos hk1, decide_eq_true he0, decide_eq_false he1]; rfl
                clear hk0 hk1
                go_wp2
                go_meet
                exact ⟨by rw [Hh.out], rfl⟩
            · have d0 := he0
              have Hh : Hid (headOf k n s e l.length = false) := by
                unfold Hid headOf
                rw [if_neg hk0, if_pos hk1, decide_eq_false he0]; rfl
              clear hk0 hk1
              go_wp2
              go_meet
              exact ⟨by rw [Hh.out], rfl⟩
          · have b1 := beq_f hk1
            by_cases hk2 : k = 2
            · have b2 := beq_t hk2
              by_cases hl2 : 2 ≤ l.length
              · have c1 : (2 : Int) ≤ l.length := by omega
                have Hh : Hid (headOf k n s e l.length = plainOf n s e) := by
                  unfold Hid headOf
                  rw [if_neg hk0, if_neg hk1, if_pos hk2, decide_eq_true hl2]; rfl
                clear hk0 hk1 hk2
                go_wp2
                go_meet
                exact ⟨by rw [Hh.out], rfl⟩
              · have c1 : ¬ (2 : Int) ≤ l.length := by omega
                have Hh : Hid (headOf k n s e l.length = false) := by
                  unfold Hid headOf
                  rw [if_neg hk0, if_neg hk1, if_pos hk2, decide_eq_false hl2]; rfl
                clear hk0 hk1 hk2
                go_wp2
                go_meet
                exact ⟨by rw [Hh.out], rfl⟩
            · have b2 := beq_f hk2
              by_cases hk3 : k = 3
              · have b3 := beq_t hk3
                by_cases hl2 : l.length = 2
                · have c1 : ((l.length : Int) == 2) = true := by rw [beq_iff_eq]; omega
                  have Hh : Hid (headOf k n s e l.length = plainOf n s e) := by
                    unfold Hid headOf
                    rw [if_neg hk0, if_neg hk1, if_neg hk2, if_pos hk3, hl2]; rfl
                  clear hk0 hk1 hk2 hk3 hl2
                  go_wp2
                  go_meet
                  exact ⟨by rw [Hh.out], rfl⟩
                · have c1 : ((l.length : Int) == 2) = false := by rw [beq_eq_false_iff_ne]; omega
                  have c2 : (l.length == 2) = false := by rw [beq_eq_false_iff_ne]; exact hl2
                  have Hh : Hid (headOf k n s e l.length = false) := by
                    unfold Hid headOf
                    rw [if_neg hk0, if_neg hk1, if_neg hk2, if_pos hk3, c2]; rfl
                  clear hk0 hk1 hk2 hk3 hl2 c2
                  go_wp2
                  go_meet
                  exact ⟨by rw [Hh.out], rfl⟩
              · have b3 := beq_f hk3
                have Hh : Hid (headOf k n s e l.length = false) := by
                  unfold Hid headOf
                  rw [if_neg hk0, if_neg hk1, if_neg hk2, if_neg hk3]
                clear hk0 hk1 hk2 hk3
                go_wp2
                go_meet
                exact ⟨by rw [Hh.out], rfl⟩
      case rest =>
        obtain ⟨rfl, rfl⟩ := hcut
        generalize headOf k n s e l.length = hd at *
        go_wp2_with fail
        obtain ⟨_, _, _, _, a4, hbw0, hz0⟩ := boxed (w := w) (k := k) (n := n) (s := s) (e := e) (v := .slice p l.length cap) 33 (Below.refl _ _)
        generalize w.alloc (Obj.cells #[Value.int IntKind.i64 k, Value.int IntKind.i64 n, Value.string s, Value.int IntKind.i64 e, Value.slice p l.length cap] 33) = w3 at *
        have Ha4 : Hid _ := a4
        clear a4
        go_loopw [5, 6] (fun a b wr => ∃ (ok : Bool) (i : Nat), a = .bool ok ∧ b = .int .i64 i ∧ i ≤ l.length ∧ Below w3.heap.size w3 wr ∧ Hid (R = (ok && Ty.shapedL (l.drop i)))) (fun _ b _ => l.length - (intOf b).toNat)
        case atStart => exact ⟨hd, 0, rfl, rfl, by omega, Below.refl _ _, HR0⟩
        case round =>
          clear HR0
          rename_i wr
          obtain ⟨ok, i, rfl, rfl, hi1, hbe, Hs⟩ := hrel
          have hb : Below w.heap.size w wr := hbw0.trans (hbe.mono (Nat.le_of_lt hz0))
          have a4 : wr.cell? ⟨w.heap.size, 4, none⟩ = some (.slice p l.length cap) := (hbe.cell (p := ⟨w.heap.size, 4, none⟩) hz0).trans Ha4.out
          have hzr0 := Nat.lt_of_lt_of_le hz0 hbe.size
          by_cases hi : i < l.length
          · have hi' : (i : Int) < l.length := by omega
            cases ok
            · have Hs' : Hid (R = false) := by unfold Hid; rw [Hs.out]; rfl
              clear Hs
              go_wp2
              go_ret
              exact ⟨ret_bool Hs'.out.symm, hb⟩
            · obtain ⟨b, o, k1, n1, s1, e1, l1, p1, cap1, rfl, hli, g0, g1, g2, g3, g4, hbw, hty⟩ := Hel.out i hi
              rw [← hb.cell (p := ⟨b, o + i * 5, none⟩) hbw] at g0
              rw [← hb.cell (p := ⟨b, o + i * 5 + 1, none⟩) hbw] at g1
              rw [← hb.cell (p := ⟨b, o + i * 5 + 2, none⟩) hbw] at g2
              rw [← hb.cell (p := ⟨b, o + i * 5 + 3, none⟩) hbw] at g3
              rw [← hb.cell (p := ⟨b, o + i * 5 + 4, none⟩) hbw] at g4
              have hbr := Nat.lt_of_lt_of_le hbw hb.size
              have hcall := fun w hty => Hih.out i hi w [.int .i64 k1, .int .i64 n1, .string s1, .int .i64 e1, .slice p1 l1.length cap1] hty
              have Hcall : Hid _ := hcall
              have htyr := hty.keep hb
              have Hty : Hid _ := htyr
              have Hs' : Hid (R = ((l[i]'hi).shaped && Ty.shapedL (l.drop (i + 1)))) := by
                unfold Hid
                rw [Hs.out, Ty.shapedL_step l i hi, Bool.true_and]
              generalize (l[i]'hi).shaped = q at *
              clear hty hli Hs hcall Hih Hel Ha4 htyr
              go_wp2_with fail
              refine (Hcall.out _ Hty.out).mono ?_
              rintro e w4 ⟨rfl, hb4⟩
              have hbe4 := Below.then hbe hb4 (Nat.le_refl _)
              clear hb4 Hty Hcall g0 g1 g2 g3 g4 a4
              go_wp2
              exact ⟨⟨q, i + 1, rfl, by go_num, by omega, hbe4, Hs'⟩, by simp [intOf]; omega⟩
          · have hi' : ¬ (i : Int) < l.length := by omega
            have Hs' : Hid (R = ok) := by
              unfold Hid
              rw [Hs.out, List.drop_of_length_le (by omega)]
              unfold Ty.shapedL
              rw [Bool.and_true]
            clear Hs
            go_wp2
            go_ret
            exact ⟨ret_bool Hs'.out.symm, hb⟩
end
end Go.Proofs.Ytbgpjaniohpfaaa
