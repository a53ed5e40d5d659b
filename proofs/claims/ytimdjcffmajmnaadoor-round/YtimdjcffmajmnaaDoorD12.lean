/-
  The program's reader of bytes: the first bytes (head).
-/
import Derived.Test.YtimdjcffmajmnaaDoorD11
namespace Go.Proofs.YtimdjcffmajmnaaDoor
open Go.RowKit Go.Deep
theorem headR_stop (S : ByteArray) : ∀ (n i : Nat) (r : Rs), ¬ r.kind = 0 → headR S n i r = r
  | 0, _, _, _ => rfl
  | n + 1, i, r, h => by rw [headR, if_neg h]
inductive HeadPost (w : World) (rp : Nat) (S : ByteArray) (r : Rs) (e : Ending) (w' : World) : Prop
  | mk (he : e = .returned (evR r.kind r.fat)) (hr : r.kind = 0 → PBox w' rp S 3 ∧ 3 ≤ S.size ∧ r.fat = 0) (hk : Kp [rp] w w') : HeadPost w rp S r e w'
section
set_option maxHeartbeats 8000000
set_option maxRecDepth 100000
theorem head_long (w : World) (rp : Nat) (S : ByteArray) (h : PBox w rp S 0) (hS : 4000000 < S.size) : Calls Tryd.prog 35 #[.pointer (some ⟨rp, 0, none⟩)] w fun e w' => e = .returned (.iface 63 (.agg #[.int .i64 1, .int .i64 0])) ∧ w' = w := by
  obtain ⟨c0, c1, c2, c3⟩ := h.cells
  have hS' : (4000000 : Int) < S.size := by omega
  have Hr : Hid _ := refuse_any 1 0 w
  clear h hS
  go_enter Tryd.func35, Tryd.ntmps35
  go_wp2_with fail
  refine Calls.mono Hr.out ?_
  rintro e1 w1 ⟨rfl, rfl⟩
  clear Hr
  go_wp2
  go_ret
  exact ⟨rfl, rfl⟩
theorem head_read (w : World) (rp : Nat) (S : ByteArray) (h : PBox w rp S 0) (hS : S.size ≤ 4000000) : Calls Tryd.prog 35 #[.pointer (some ⟨rp, 0, none⟩)] w fun e w' => HeadPost w rp S (headR S 3 0 ⟨0, 0, 0⟩) e w' := by
  obtain ⟨c0, c1, c2, c3⟩ := h.cells
  have hS' : ¬ (4000000 : Int) < S.size := by omega
  have H : Hid (PBox w rp S 0) := h
  obtain ⟨R, hR⟩ : ∃ R, R = headR S 3 0 ⟨0, 0, 0⟩ := ⟨_, rfl⟩
  rw [← hR]
  have HR : Hid (R = headR S 3 0 ⟨0, 0, 0⟩) := hR
  clear h hR
  go_enter Tryd.func35, Tryd.ntmps35
  go_wp2_with fail
  go_loopg [13] 3 (fun g iv wr => ∃ i : Nat, iv = .int .i64 i ∧ i ≤ 3 ∧ g = 3 - i ∧ i ≤ S.size ∧ Hid (headR S (3 - i) i ⟨0, 0, 0⟩ = R ∧ PBox wr rp S i ∧ Kp [rp] w wr))
  case atStart => exact ⟨0, rfl, by omega, by omega, by omega, HR.out.symm, H.out, Kp.refl _ _⟩
  case round =>
    clear c0 c1 c2 c3 HR
    obtain ⟨i, rfl, hi1, rfl, hiS, HQ⟩ := hrel
    obtain ⟨q1, q2, q3⟩ := HQ.out
    clear HQ
    by_cases hi : i < 3
    · have hi' : (i : Int) < 3 := by omega
      rw [show 3 - i = (3 - (i + 1)) + 1 by omega, headR, if_pos rfl] at q1
      unfold headStep at q1
      by_cases hgt : (S.size : Int) - i < (1 : Nat)
      · rw [if_pos (by omega : S.size ≤ i), headR_stop S _ _ _ (by simp [Rs.fail])] at q1
        have Hc : Hid _ := take_short wr rp S i 1 q2 hS (by omega) hgt
        have hR2 : R = ⟨0, 16, S.size⟩ := by
          rw [← q1]
          obtain rfl : i = S.size := by omega
          rfl
        subst hR2
        have Hq3 : Hid _ := q3
        clear q1 q2 q3
        go_wp2_with fail
        refine Calls.mono Hc.out ?_
        rintro e4 w4 ⟨rfl, p4, k4⟩
        have HK : Hid (Kp [rp] w w4) := Kp.trans Hq3.out k4
        clear p4 k4 Hc
        go_wp2
        go_ret
        exact ⟨rfl, (fun hz => by cases hz), HK.out⟩
      · rw [if_neg (by omega : ¬ S.size ≤ i)] at q1
        have Hc : Hid _ := take_ok wr rp S i 1 q2 hS (by omega)
        have hT2 : ∀ h : 0 < (S.extract i (i + 1)).size, ((S.extract i (i + 1))[0]'h) = byteAt S i := fun h => ext_byte S i 1 0 h (by omega)
        have hsz : (S.extract i (i + 1)).size = 1 := by simp [ByteArray.size_extract]; omega
        have Hq3 : Hid _ := q3
        have Hq1 : Hid _ := q1
        clear q1 q2 q3
        go_wp2_with fail
        refine Calls.mono Hc.out ?_
        rintro e4 w4 ⟨rfl, p4, k4⟩
        have HK : Hid (PBox w4 rp S ((i + 1 : Nat) : Int) ∧ Kp [rp] w w4) := ⟨p4, Kp.trans Hq3.out k4⟩
        clear p4 k4 Hc Hq3
        generalize S.extract i (i + 1) = T at *
        have h0T : 0 < T.size := by omega
        have hb0 := hT2 h0T
        have hTi : (0 : Int) ≤ 0 ∧ (0 : Int) < T.size := by omega
        have h012 : i = 0 ∨ i = 1 ∨ i = 2 := by omega
        clear hT2 hsz
        rcases h012 with rfl | rfl | rfl
        · have Hq1b : Hid (if byteAt S 0 = 77 then headR S 2 1 ⟨0, 0, 0⟩ = R else R = ⟨0, 15, 0⟩) := by
            unfold Hid
            have h := Hq1.out
            have eh : headAt 0 = 77 := rfl
            rw [eh] at h
            by_cases hb : byteAt S 0 = 77
            · rw [if_pos hb]
              rw [if_pos hb] at h
              exact h
            · rw [if_neg hb]
              rw [if_neg hb, headR_stop S _ _ _ (by simp [Rs.fail])] at h
              exact h.symm
          have HK2 : Hid (PBox w4 rp S 1 ∧ Kp [rp] w w4) := HK.out
          have hcmp : (((byteAt S 0).toNat : Int) != ((({ data := #[77, 76, 49] } : ByteArray)[0]'(by decide)).toNat : Int)) = !(decide (byteAt S 0 = 77)) := by
            by_cases hb : byteAt S 0 = 77
            · rw [hb]; rfl
            · rw [decide_eq_false hb]
              have : ¬ ((byteAt S 0).toNat : Int) = ((77 : UInt8).toNat : Int) := fun e => hb (UInt8.toNat_inj.1 (by omega))
              have e2 : ((({ data := #[77, 76, 49] } : ByteArray)[0]'(by decide)).toNat : Int) = ((77 : UInt8).toNat : Int) := rfl
              rw [e2]
              simpa using this 
          clear Hq1 HK
          simp only [Int.natCast_zero] at *
          go_upto_region 9 with fail
          go_region
          all_goals clear hcmp
          by_cases hb : byteAt S 0 = 77
          · rw [decide_eq_true hb]
            have Hq2 := Hq1b.out
            rw [if_pos hb] at Hq2
            have Q : Hid (headR S 2 1 ⟨0, 0, 0⟩ = R ∧ PBox w4.drew rp S 1 ∧ Kp [rp] w w4.drew) := ⟨Hq2, PBox.kp HK2.out.1 ((Kp.refl [] _).drew) (by simp), Kp.drew HK2.out.2⟩
            clear hb Hq2 Hq1b HK2 hb0
            go_wp2
            go_roundg 2
            case measure => omega
            case rel => exact ⟨1, rfl, by omega, rfl, by omega, Q⟩
          · rw [decide_eq_false hb]
            have Hq2 := Hq1b.out
            rw [if_neg hb] at Hq2
            subst Hq2
            have Hr : Hid _ := refuse_any 15 0 w4.drew
            have HK3 : Hid (Kp [rp] w w4.drew) := Kp.drew HK2.out.2
            clear hb Hq1b HK2 hb0
            go_wp2_with fail
            refine Calls.mono Hr.out ?_
            rintro e5 w5 ⟨rfl, rfl⟩
            clear Hr
            go_wp2
            go_ret
            exact ⟨rfl, (fun hz => by cases hz), HK3.out⟩
        · have Hq1b : Hid (if byteAt S 1 = 76 then headR S 1 2 ⟨0, 0, 0⟩ = R else R = ⟨0, 15, 1⟩) := by
            unfold Hid
            have h := Hq1.out
            have eh : headAt 1 = 76 := rfl
            rw [eh] at h
            by_cases hb : byteAt S 1 = 76
            · rw [if_pos hb]
              rw [if_pos hb] at h
              exact h
            · rw [if_neg hb]
              rw [if_neg hb, headR_stop S _ _ _ (by simp [Rs.fail])] at h
              exact h.symm
          have HK2 : Hid (PBox w4 rp S 2 ∧ Kp [rp] w w4) := HK.out
          have hcmp : (((byteAt S 1).toNat : Int) != ((({ data := #[77, 76, 49] } : ByteArray)[1]'(by decide)).toNat : Int)) = !(decide (byteAt S 1 = 76)) := by
            by_cases hb : byteAt S 1 = 76
            · rw [hb]; rfl
            · rw [decide_eq_false hb]
              have : ¬ ((byteAt S 1).toNat : Int) = ((76 : UInt8).toNat : Int) := fun e => hb (UInt8.toNat_inj.1 (by omega))
              have e2 : ((({ data := #[77, 76, 49] } : ByteArray)[1]'(by decide)).toNat : Int) = ((76 : UInt8).toNat : Int) := rfl
              rw [e2]
              simpa using this 
          clear Hq1 HK
          simp only [Int.natCast_one] at *
          go_upto_region 9 with fail
          go_region
          all_goals clear hcmp
          by_cases hb : byteAt S 1 = 76
          · rw [decide_eq_true hb]
            have Hq2 := Hq1b.out
            rw [if_pos hb] at Hq2
            have Q : Hid (headR S 1 2 ⟨0, 0, 0⟩ = R ∧ PBox w4.drew rp S 2 ∧ Kp [rp] w w4.drew) := ⟨Hq2, PBox.kp HK2.out.1 ((Kp.refl [] _).drew) (by simp), Kp.drew HK2.out.2⟩
            clear hb Hq2 Hq1b HK2 hb0
            go_wp2
            go_roundg 1
            case measure => omega
            case rel => exact ⟨2, rfl, by omega, rfl, by omega, Q⟩
          · rw [decide_eq_false hb]
            have Hq2 := Hq1b.out
            rw [if_neg hb] at Hq2
            subst Hq2
            have Hr : Hid _ := refuse_any 15 1 w4.drew
            have HK3 : Hid (Kp [rp] w w4.drew) := Kp.drew HK2.out.2
            clear hb Hq1b HK2 hb0
            go_wp2_with fail
            refine Calls.mono Hr.out ?_
            rintro e5 w5 ⟨rfl, rfl⟩
            clear Hr
            go_wp2
            go_ret
            exact ⟨rfl, (fun hz => by cases hz), HK3.out⟩
        · have Hq1b : Hid (if byteAt S 2 = 49 then headR S 0 3 ⟨0, 0, 0⟩ = R else R = ⟨0, 15, 2⟩) := by
            unfold Hid
            have h := Hq1.out
            have eh : headAt 2 = 49 := rfl
            rw [eh] at h
            by_cases hb : byteAt S 2 = 49
            · rw [if_pos hb]
              rw [if_pos hb] at h
              exact h
            · rw [if_neg hb]
              rw [if_neg hb, headR_stop S _ _ _ (by simp [Rs.fail])] at h
              exact h.symm
          have HK2 : Hid (PBox w4 rp S 3 ∧ Kp [rp] w w4) := HK.out
          have hcmp : (((byteAt S 2).toNat : Int) != ((({ data := #[77, 76, 49] } : ByteArray)[2]'(by decide)).toNat : Int)) = !(decide (byteAt S 2 = 49)) := by
            by_cases hb : byteAt S 2 = 49
            · rw [hb]; rfl
            · rw [decide_eq_false hb]
              have : ¬ ((byteAt S 2).toNat : Int) = ((49 : UInt8).toNat : Int) := fun e => hb (UInt8.toNat_inj.1 (by omega))
              have e2 : ((({ data := #[77, 76, 49] } : ByteArray)[2]'(by decide)).toNat : Int) = ((49 : UInt8).toNat : Int) := rfl
              rw [e2]
              simpa using this 
          clear Hq1 HK
          simp only [Int.cast_ofNat_Int] at *
          go_upto_region 9 with fail
          go_region
          all_goals clear hcmp
          by_cases hb : byteAt S 2 = 49
          · rw [decide_eq_true hb]
            have Hq2 := Hq1b.out
            rw [if_pos hb] at Hq2
            have Q : Hid (headR S 0 3 ⟨0, 0, 0⟩ = R ∧ PBox w4.drew rp S 3 ∧ Kp [rp] w w4.drew) := ⟨Hq2, PBox.kp HK2.out.1 ((Kp.refl [] _).drew) (by simp), Kp.drew HK2.out.2⟩
            clear hb Hq2 Hq1b HK2 hb0
            go_wp2
            go_roundg 0
            case measure => omega
            case rel => exact ⟨3, rfl, by omega, rfl, by omega, Q⟩
          · rw [decide_eq_false hb]
            have Hq2 := Hq1b.out
            rw [if_neg hb] at Hq2
            subst Hq2
            have Hr : Hid _ := refuse_any 15 2 w4.drew
            have HK3 : Hid (Kp [rp] w w4.drew) := Kp.drew HK2.out.2
            clear hb Hq1b HK2 hb0
            go_wp2_with fail
            refine Calls.mono Hr.out ?_
            rintro e5 w5 ⟨rfl, rfl⟩
            clear Hr
            go_wp2
            go_ret
            exact ⟨rfl, (fun hz => by cases hz), HK3.out⟩
    · have hi' : ¬ (i : Int) < 3 := by omega
      obtain rfl : i = 3 := by omega
      have e : (⟨0, 0, 0⟩ : Rs) = R := q1
      subst e
      have Hq : Hid _ := And.intro q2 q3
      clear q1 q2 q3
      go_wp2
      go_ret
      exact ⟨rfl, (fun _ => ⟨Hq.out.1, hiS, rfl⟩), Hq.out.2⟩
end
end Go.Proofs.YtimdjcffmajmnaaDoor
