/-
  The law's own word: are two types the same, with all that they say of themselves?
-/
import Derived.Test.YtbgpjaniohpfaaaP2
namespace Go.Proofs.Ytbgpjaniohpfaaa
open Go.RowKit
open Go.Proofs.Ytbgpjaniohpfaaa
set_option maxHeartbeats 2000000 in
set_option maxRecDepth 100000 in
theorem lawSame_any : ∀ (T U : Ty) (w : World) (cs ds : List Value), TyIn w cs T → TyIn w ds U →
    Calls Try.prog 28 #[.agg cs.toArray, .agg ds.toArray] w fun e w' => e = .returned (.bool (T.same U)) ∧ Below w.heap.size w w' := by
  intro T
  induction T using Ty.ind with
  | h k n s e l ih =>
    intro U w cs ds hT hU
    cases U with
    | mk k' n' s' e' l' =>
      obtain ⟨p, cap, rfl, hl1, hl2, hel⟩ := hT.elem
      obtain ⟨p', cap', rfl, hl1', hl2', hel'⟩ := hU.elem
      have Hel : Hid _ := hel
      have Hel' : Hid _ := hel'
      have Hih : Hid _ := ih
      clear hel ih hT hel' hU
      unfold maxLen at hl1 hl1'
      generalize hR : (Ty.mk k n s e l).same (Ty.mk k' n' s' e' l') = R
      have HR : Hid _ := hR
      clear hR
      by_cases hk : k = k'
      · have b1 : (k != k') = false := by simp [hk]
        by_cases hs : s.data.toList = s'.data.toList
        · have b2 : (s.toList == s'.toList) = true := by rw [Lib.toList_data, Lib.toList_data, beq_iff_eq]; exact hs
          by_cases hn : n = n'
          · have b3 : (n != n') = false := by simp [hn]
            by_cases hq : e = e'
            · have b5 : (e != e') = false := by simp [hq]
              by_cases hlen : l.length = l'.length
              · have b4 : ((l.length : Int) != (l'.length : Int)) = false := by simp [hlen]
                have HR0 : Hid (R = Ty.sameL (l.drop 0) (l'.drop 0)) := by
                  unfold Hid
                  rw [← HR.out, Ty.same]
                  simp [hk, hs, hn, hq, hlen]
                have Hlen : Hid _ := hlen
                clear HR hk hs hn hq hlen
                go_enter Try.func28, Try.ntmps28
                go_wp2_with fail
                obtain ⟨_, _, _, _, a4, hbw0, hz0⟩ := boxed (w := w) (k := k) (n := n) (s := s) (e := e) (v := .slice p l.length cap) 33 ((Below.refl _ _).alloc (Nat.le_refl _) (Obj.cells #[Value.int IntKind.i64 k', Value.int IntKind.i64 n', Value.string s', Value.int IntKind.i64 e', Value.slice p' l'.length cap'] 33))
                have c4 : ((w.alloc (Obj.cells #[Value.int IntKind.i64 k, Value.int IntKind.i64 n, Value.string s, Value.int IntKind.i64 e, Value.slice p l.length cap] 33)).alloc (Obj.cells #[Value.int IntKind.i64 k', Value.int IntKind.i64 n', Value.string s', Value.int IntKind.i64 e', Value.slice p' l'.length cap'] 33)).cell? ⟨w.heap.size + 1, 4, none⟩ = some (.slice p' l'.length cap') := by simp [go_sem]
                have hz1 : w.heap.size + 1 < ((w.alloc (Obj.cells #[Value.int IntKind.i64 k, Value.int IntKind.i64 n, Value.string s, Value.int IntKind.i64 e, Value.slice p l.length cap] 33)).alloc (Obj.cells #[Value.int IntKind.i64 k', Value.int IntKind.i64 n', Value.string s', Value.int IntKind.i64 e', Value.slice p' l'.length cap'] 33)).heap.size := by simp
                generalize ((w.alloc (Obj.cells #[Value.int IntKind.i64 k, Value.int IntKind.i64 n, Value.string s, Value.int IntKind.i64 e, Value.slice p l.length cap] 33)).alloc (Obj.cells #[Value.int IntKind.i64 k', Value.int IntKind.i64 n', Value.string s', Value.int IntKind.i64 e', Value.slice p' l'.length cap'] 33)) = w3 at *
                have Ha4 : Hid _ := a4
                have Hc4 : Hid _ := c4
                clear a4 c4
                go_loopw [5] (fun a wr => ∃ (i : Nat), a = .int .i64 i ∧ i ≤ l.length ∧ Below w3.heap.size w3 wr ∧ Hid (R = Ty.sameL (l.drop i) (l'.drop i))) (fun a _ => l.length - (intOf a).toNat)
                case atStart => exact ⟨0, rfl, by omega, Below.refl _ _, HR0⟩
                case round =>
                  clear HR0
                  rename_i wr
                  obtain ⟨i, rfl, hi1, hbe, Hs⟩ := hrel
                  have hb : Below w.heap.size w wr := hbw0.trans (hbe.mono (Nat.le_of_lt hz0))
                  have a4 : wr.cell? ⟨w.heap.size, 4, none⟩ = some (.slice p l.length cap) := (hbe.cell (p := ⟨w.heap.size, 4, none⟩) hz0).trans Ha4.out
                  have c4 : wr.cell? ⟨w.heap.size + 1, 4, none⟩ = some (.slice p' l'.length cap') := (hbe.cell (p := ⟨w.heap.size + 1, 4, none⟩) hz1).trans Hc4.out
                  have hzr0 := Nat.lt_of_lt_of_le hz0 hbe.size
                  have hzr1 := Nat.lt_of_lt_of_le hz1 hbe.size
                  by_cases hi : i < l.length
                  · have hi' : (i : Int) < l.length := by omega
                    have hi2 : i < l'.length := by have := Hlen.out; omega
                    have hi2' : (i : Int) < l'.length := by omega
                    obtain ⟨b, o, k1, n1, s1, e1, l1, p1, cap1, rfl, hli, g0, g1, g2, g3, g4, hbw, hty⟩ := Hel.out i hi
                    obtain ⟨b', o', k2, n2, s2, e2, l2, p2, cap2, rfl, hli', x0, x1, x2, x3, x4, hbw', hty'⟩ := Hel'.out i hi2
                    rw [← hb.cell (p := ⟨b, o + i * 5, none⟩) hbw] at g0
                    rw [← hb.cell (p := ⟨b, o + i * 5 + 1, none⟩) hbw] at g1
                    rw [← hb.cell (p := ⟨b, o + i * 5 + 2, none⟩) hbw] at g2
                    rw [← hb.cell (p := ⟨b, o + i * 5 + 3, none⟩) hbw] at g3
                    rw [← hb.cell (p := ⟨b, o + i * 5 + 4, none⟩) hbw] at g4
                    rw [← hb.cell (p := ⟨b', o' + i * 5, none⟩) hbw'] at x0
                    rw [← hb.cell (p := ⟨b', o' + i * 5 + 1, none⟩) hbw'] at x1
                    rw [← hb.cell (p := ⟨b', o' + i * 5 + 2, none⟩) hbw'] at x2
                    rw [← hb.cell (p := ⟨b', o' + i * 5 + 3, none⟩) hbw'] at x3
                    rw [← hb.cell (p := ⟨b', o' + i * 5 + 4, none⟩) hbw'] at x4
                    have hbr := Nat.lt_of_lt_of_le hbw hb.size
                    have hbr' := Nat.lt_of_lt_of_le hbw' hb.size
                    have hcall := fun w hty hty' => Hih.out i hi (l'[i]'hi2) w [.int .i64 k1, .int .i64 n1, .string s1, .int .i64 e1, .slice p1 l1.length cap1] [.int .i64 k2, .int .i64 n2, .string s2, .int .i64 e2, .slice p2 l2.length cap2] hty hty'
                    have Hcall : Hid _ := hcall
                    have htyr := hty.keep hb
                    have htyr' := hty'.keep hb
                    have Hty : Hid _ := htyr
                    have Hty' : Hid _ := htyr'
                    have Hs' : Hid (R = ((l[i]'hi).same (l'[i]'hi2) && Ty.sameL (l.drop (i + 1)) (l'.drop (i + 1)))) := by
                      unfold Hid
                      rw [Hs.out, List.drop_eq_getElem_cons hi, List.drop_eq_getElem_cons hi2]
                      conv => lhs; unfold Ty.sameL
                    generalize (l[i]'hi).same (l'[i]'hi2) = q at *
                    clear hty hty' hli hli' Hs hcall Hih Hel Hel' Ha4 Hc4 htyr htyr'
                    go_wp2_with fail
                    go_region_with (go_at_call 28; refine (Hcall.out _ (Hty.out.keep (Below.refl _ _).drew) (Hty'.out.keep (Below.refl _ _).drew)).mono ?_; rintro e w4 ⟨rfl, hb4⟩)
                    all_goals have hbe4 := Below.then hbe.drew hb4 (Nat.le_refl _)
                    all_goals clear hb4 Hty Hty' Hcall g0 g1 g2 g3 g4 x0 x1 x2 x3 x4 a4 c4
                    all_goals cases q
                    all_goals go_wp2
                    all_goals first
                      | exact ⟨⟨i + 1, by go_num, by omega, hbe4, by unfold Hid; rw [Hs'.out]; simp⟩, by simp [intOf]; omega⟩
                      | (go_ret; exact ⟨ret_bool (by rw [Hs'.out]; simp), hbw0.trans (hbe4.mono (Nat.le_of_lt hz0))⟩)
                  · have hi' : ¬ (i : Int) < l.length := by omega
                    have Hs' : Hid (R = true) := by
                      unfold Hid
                      rw [Hs.out, List.drop_of_length_le (by omega)]
                      unfold Ty.sameL
                      rfl
                    clear Hs
                    go_wp2
                    go_ret
                    exact ⟨ret_bool Hs'.out.symm, hb⟩
              · have b4 : ((l.length : Int) != (l'.length : Int)) = true := by rw [bne_iff_ne]; omega
                have HR' : Hid (R = false) := by
                  unfold Hid
                  rw [← HR.out, Ty.same]
                  simp [hlen]
                clear HR Hel Hel' Hih
                clear hk hs hn hq hlen
                go_enter Try.func28, Try.ntmps28
                go_wp2
                go_ret
                exact ⟨ret_bool HR'.out.symm, ((Below.refl w.heap.size w).alloc (Nat.le_refl _) _).alloc (by simp) _⟩
            · have b5 : (e != e') = true := by rw [bne_iff_ne]; exact hq
              have HR' : Hid (R = false) := by
                unfold Hid
                rw [← HR.out, Ty.same]
                simp [hq]
              clear HR Hel Hel' Hih
              clear hk hs hn hq
              go_enter Try.func28, Try.ntmps28
              go_wp2
              go_ret
              exact ⟨ret_bool HR'.out.symm, ((Below.refl w.heap.size w).alloc (Nat.le_refl _) _).alloc (by simp) _⟩
          · have b3 : (n != n') = true := by rw [bne_iff_ne]; exact hn
            have HR' : Hid (R = false) := by
              unfold Hid
              rw [← HR.out, Ty.same]
              simp [hn]
            clear HR Hel Hel' Hih
            clear hk hs hn
            go_enter Try.func28, Try.ntmps28
            go_wp2
            go_ret
            exact ⟨ret_bool HR'.out.symm, ((Below.refl w.heap.size w).alloc (Nat.le_refl _) _).alloc (by simp) _⟩
        · have b2 : (s.toList == s'.toList) = false := by rw [Lib.toList_data, Lib.toList_data, beq_eq_false_iff_ne]; exact hs
          have HR' : Hid (R = false) := by
            unfold Hid
            rw [← HR.out, Ty.same]
            simp [show ¬ s.data = s'.data from fun q => hs (by rw [q])]
          clear HR Hel Hel' Hih
          clear hk hs
          go_enter Try.func28, Try.ntmps28
          go_wp2
          go_ret
          exact ⟨ret_bool HR'.out.symm, ((Below.refl w.heap.size w).alloc (Nat.le_refl _) _).alloc (by simp) _⟩
      · have b1 : (k != k') = true := by rw [bne_iff_ne]; exact hk
        have HR' : Hid (R = false) := by
          unfold Hid
          rw [← HR.out, Ty.same]
          simp [hk]
        clear HR Hel Hel' Hih
        clear hk
        go_enter Try.func28, Try.ntmps28
        go_wp2
        go_ret
        exact ⟨ret_bool HR'.out.symm, ((Below.refl w.heap.size w).alloc (Nat.le_refl _) _).alloc (by simp) _⟩
end Go.Proofs.Ytbgpjaniohpfaaa
