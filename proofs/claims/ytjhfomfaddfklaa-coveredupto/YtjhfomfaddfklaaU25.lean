/-
  The law Covered's own functions, eight: how many parts a pattern has (count).
-/
import Derived.Test.YtjhfomfaddfklaaU24
namespace Go.Proofs.Ytjhfomfaddfklaa
open Go.RowKit Go.Deep
theorem cntL_drop (l : List Pt) (i : Nat) (hi : i < l.length) : cntL (l.drop i) = cntP (l[i]'hi) + cntL (l.drop (i + 1)) := by
  rw [List.drop_eq_getElem_cons hi, cntL]
theorem wrap_next (l c d R : Int) (h : wrap64 (l + (c + d)) = R) : wrap64 (wrap64 (l + wrap64 c) + d) = R := by
  rw [← h]
  unfold wrap64
  omega
theorem wrap_twice (x : Int) : wrap64 (wrap64 x) = wrap64 x := by
  unfold wrap64
  omega
section
set_option maxHeartbeats 8000000
set_option maxRecDepth 100000
theorem count_any (wb : World) (c : PC) (P : Pt) (hP : PtIn wb c P) : ∀ (w : World), Below wb.heap.size wb w → Calls Try.prog 10 #[c.val] w fun e w' => e = .returned (.int .i64 (wrap64 (cntP P))) ∧ Below w.heap.size w w' := by
  induction hP with
  | mk c kids b o C hl hm hcap hz hw hp hc hr ih =>
    intro w hbw
    obtain ⟨k, n, oo, a, s, p, len, cap⟩ := c
    simp only at hl hp hcap hw
    subst hl
    have hm' := hm
    unfold maxLen at hm'
    have Hbx : Hid (PBox _ _ _) := pbox_new w ⟨k, n, oo, a, s, p, kids.length, cap⟩
    have Hba : Hid (Below w.heap.size w (w.alloc (PC.obj ⟨k, n, oo, a, s, p, kids.length, cap⟩))) := (Below.refl _ _).alloc (Nat.le_refl _) _
    have Hih : Hid _ := ih
    have Hc : Hid (∀ i, i < kids.length → Cells6 wb b (o + i * 6) (C i)) := hc
    have Hp : Hid (kids ≠ [] → p = some ⟨b, o, none⟩) := hp
    have Hbw : Hid (Below wb.heap.size wb w) := hbw
    obtain ⟨R, hR⟩ : ∃ R, wrap64 (cntP (.mk k n oo a s kids)) = R := ⟨_, rfl⟩
    have HR : Hid (wrap64 (1 + (cntL (kids.drop 0) : Int)) = R) := by unfold Hid; rw [← hR, cntP, List.drop_zero]; simp
    rw [hR]
    clear hR ih hr hc hp hbw hcap hz hw hm
    simp only [PC.val, PC.obj] at *
    go_enter Try.func10, Try.ntmps10
    go_upto_block 0 with fail
    generalize w.alloc (Obj.cells #[Value.int IntKind.i64 k, Value.int IntKind.i64 n, Value.int IntKind.i64 oo, Value.int IntKind.i64 a, Value.string s, Value.slice p kids.length cap] 26) = w1 at *
    go_wp2_with fail
    go_loopg [3, 4] kids.length (fun g lv iv wr => ∃ (i : Nat) (l : Int), lv = .int .i64 l ∧ iv = .int .i64 i ∧ i ≤ kids.length ∧ g = kids.length - i ∧ Hid (wrap64 l = l ∧ wrap64 (l + cntL (kids.drop i)) = R ∧ Below w1.heap.size w1 wr))
    case atStart => exact ⟨0, 1, rfl, rfl, by omega, by omega, by unfold wrap64; omega, HR.out, Below.refl _ _⟩
    case round =>
      obtain ⟨i, l, rfl, rfl, hi1, rfl, HJ⟩ := hrel
      obtain ⟨t0, t1, t2⟩ := HJ.out
      clear HJ
      obtain ⟨_, _, _, _, _, x5, x6⟩ := PBox.cells' (PBox.below Hbx.out t2)
      simp only at x5
      by_cases hi : i < kids.length
      · have hi' : (i : Int) < kids.length := by omega
        have hpe := Hp.out (fun e => by rw [e] at hi; cases hi)
        subst hpe
        have hwr : Below wb.heap.size wb wr := Below.trans Hbw.out ((Below.then Hba.out t2 (Nat.le_refl _)).mono (Below.size Hbw.out))
        obtain ⟨d0, d1, d2, d3, d4, d5⟩ := (Hc.out i hi).below hwr
        have hbl := World.block_lt_of_cell? _ _ d0
        have hcall := Hih.out i hi wr hwr
        have Hcall : Hid _ := hcall
        rw [cntL_drop kids i hi] at t1
        have T1 : Hid (wrap64 (wrap64 (l + wrap64 (cntP (kids[i]'hi))) + (cntL (kids.drop (i + 1)) : Int)) = R) := wrap_next l _ _ R (by rw [← t1]; simp)
        have T2 : Hid (Below w1.heap.size w1 wr) := t2
        generalize wrap64 (cntP (kids[i]'hi) : Int) = l2 at *
        generalize C i = ci at *
        obtain ⟨ek, en, eo, ea, es, ep, el, ec⟩ := ci
        simp only at *
        clear t0 t1 t2 hcall hwr
        go_wp2_with fail
        refine Calls.mono Hcall.out ?_
        rintro e8 w8 ⟨rfl, hb8⟩
        have Q : Hid (wrap64 (wrap64 (l + l2)) = wrap64 (l + l2) ∧ wrap64 (wrap64 (l + l2) + cntL (kids.drop (i + 1))) = R ∧ Below w1.heap.size w1 w8) := ⟨wrap_twice _, T1.out, Below.then T2.out hb8 (Nat.le_refl _)⟩
        clear hb8 Hcall d0 d1 d2 d3 d4 d5 x5
        go_wp2
        go_roundg (kids.length - (i + 1))
        case measure => omega
        case rel => exact ⟨i + 1, wrap64 (l + l2), rfl, by first | rfl | (congr 1; omega) | go_num, by omega, rfl, Q⟩
      · have hi' : ¬ (i : Int) < kids.length := by omega
        have e : l = R := by
          rw [← t1, List.drop_eq_nil_of_le (by omega), cntL]
          simpa using t0.symm
        subst e
        have Q : Hid (Below w.heap.size w wr) := Below.then Hba.out t2 (Nat.le_refl _)
        clear t0 t1 t2
        go_wp2
        go_ret
        exact ⟨rfl, Q.out⟩
end
end Go.Proofs.Ytjhfomfaddfklaa
