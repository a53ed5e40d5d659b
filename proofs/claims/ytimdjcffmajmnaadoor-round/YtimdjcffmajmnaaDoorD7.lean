/-
  The program's reader of bytes: a text (text).
-/
import Derived.Test.YtimdjcffmajmnaaDoorD6
namespace Go.Proofs.YtimdjcffmajmnaaDoor
open Go.RowKit Go.Deep
def text0 (S : ByteArray) (pos : Nat) : ByteArray × Rs :=
  if (S.size : Int) - pos < (1 : Nat) then (⟨#[]⟩, ⟨pos, 16, S.size⟩) else if 200 < numAt S pos 1 then (⟨#[]⟩, ⟨pos + 1, 17, pos⟩) else if (S.size : Int) - (pos + 1 : Nat) < (numAt S pos 1).toNat then (⟨#[]⟩, ⟨pos + 1, 16, S.size⟩) else (S.extract (pos + 1) (pos + 1 + (numAt S pos 1).toNat), ⟨pos + 1 + (numAt S pos 1).toNat, 0, 0⟩)
theorem textR_eq (S : ByteArray) (pos : Nat) (ts : List ByteArray) : textR S (ts, ⟨pos, 0, 0⟩) = (if (text0 S pos).2.kind = 0 then ts ++ [(text0 S pos).1] else ts, (text0 S pos).2) := by
  unfold textR text0
  have hp := numAt_pos S pos 1
  by_cases h1 : (S.size : Int) - pos < (1 : Nat)
  · have := num0_short (S := S) (n := 1) (pos := pos) h1
    unfold num0 at this
    simp only
    rw [this, if_pos h1]
    simp [textTake]
  · have := num0_ok (S := S) (n := 1) (pos := pos) h1
    unfold num0 at this
    simp only
    rw [this, if_neg h1]
    by_cases h2 : 200 < numAt S pos 1
    · rw [if_pos h2]
      simp [textTake, h2, Rs.fail]
    · rw [if_neg h2]
      have e : ((numAt S pos 1).toNat : Int) = numAt S pos 1 := by omega
      by_cases h3 : (S.size : Int) - (pos + 1 : Nat) < (numAt S pos 1).toNat
      · rw [if_pos h3]
        rw [e] at h3
        simp only [textTake, if_true, if_neg h2, if_pos h3, Rs.fail]
        rfl
      · rw [if_neg h3]
        rw [e] at h3
        simp only [textTake, if_true, if_neg h2, if_neg h3]
section
set_option maxHeartbeats 8000000
set_option maxRecDepth 100000
theorem text_read (w : World) (rp : Nat) (S : ByteArray) (pos : Nat) (h : PBox w rp S pos) (hS : S.size ≤ 4000000) (hp : pos ≤ 4000000) : Calls Tryd.prog 37 #[.pointer (some ⟨rp, 0, none⟩)] w fun e w' => e = .returned (.tuple #[.string (text0 S pos).1, evR (text0 S pos).2.kind (text0 S pos).2.fat]) ∧ PBox w' rp S (text0 S pos).2.pos ∧ Kp [rp] w w' := by
  have H : Hid (PBox w rp S pos) := h
  have hv := numAt_pos S pos 1
  obtain ⟨c0, c1, c2, c3⟩ := h.cells
  obtain ⟨R, hR⟩ : ∃ R, R = text0 S pos := ⟨_, rfl⟩
  rw [← hR]
  unfold text0 at hR
  clear h
  by_cases h1 : (S.size : Int) - pos < (1 : Nat)
  · rw [if_pos h1] at hR
    subst hR
    have Hc : Hid _ := natural_short w rp S pos 1 H.out hS hp h1
    go_enter Tryd.func37, Tryd.ntmps37
    go_wp2_with fail
    refine Calls.mono Hc.out ?_
    rintro e1 w1 ⟨rfl, q1⟩
    have Hq1 : Hid _ := q1
    clear c0 c1 c2 c3 q1 Hc
    go_wp2
    exact bodyPost_ret (v := .tuple #[.string ⟨#[]⟩, .iface 63 (.agg #[.int .i64 16, .int .i64 S.size])]) (by simp [results, Tryd.results37, go_sem]) rfl ⟨rfl, Hq1.out⟩
  rw [if_neg h1] at hR
  have Hc : Hid _ := natural_ok w rp S pos 1 H.out hS (by omega) (by omega)
  obtain ⟨k, hk⟩ : ∃ k : Nat, numAt S pos 1 = (k : Int) := ⟨(numAt S pos 1).toNat, by omega⟩
  rw [hk] at hR Hc hv
  rw [Int.toNat_natCast] at hR
  clear hk
  have hk8 : k < 256 := by omega
  by_cases h2 : 200 < (k : Int)
  · rw [if_pos h2] at hR
    subst hR
    go_enter Tryd.func37, Tryd.ntmps37
    go_wp2_with fail
    refine Calls.mono Hc.out ?_
    rintro e1 w1 ⟨rfl, q1⟩
    have Hq1 : Hid (PBox w1 rp S ((pos + 1 : Nat) : Int) ∧ Kp [rp] w w1) := q1
    clear c0 c1 c2 c3 q1 Hc
    have Hr : Hid _ := refuse_any 17 pos w1
    go_wp2_with fail
    refine Calls.mono Hr.out ?_
    rintro e2 w2 ⟨rfl, rfl⟩
    clear Hr
    go_wp2
    exact bodyPost_ret (v := .tuple #[.string ⟨#[]⟩, .iface 63 (.agg #[.int .i64 17, .int .i64 pos])]) (by simp [results, Tryd.results37, go_sem]) rfl ⟨rfl, Hq1.out⟩
  rw [if_neg h2] at hR
  by_cases h3 : (S.size : Int) - (pos + 1 : Nat) < k
  · rw [if_pos h3] at hR
    subst hR
    go_enter Tryd.func37, Tryd.ntmps37
    go_wp2_with fail
    refine Calls.mono Hc.out ?_
    rintro e1 w1 ⟨rfl, p1, k1⟩
    have Hk1 : Hid (Kp [rp] w w1) := k1
    have Ht : Hid _ := take_short w1 rp S (pos + 1) k p1 hS (by omega) h3
    clear c0 c1 c2 c3 p1 k1 Hc
    go_wp2_with fail
    refine Calls.mono Ht.out ?_
    rintro e2 w2 ⟨rfl, p2, k2⟩
    have Hk2 : Hid (Kp [rp] w w2) := Kp.trans Hk1.out k2
    have Hp2 : Hid (PBox w2 rp S ((pos + 1 : Nat) : Int)) := p2
    clear Ht p2 k2
    have Hcl : Hid _ := clone_any ⟨#[]⟩ (by decide) w2
    go_wp2_with fail
    refine Calls.mono Hcl.out ?_
    rintro e3 w3 ⟨rfl, hb3⟩
    have Hq : Hid (PBox w3 rp S ((pos + 1 : Nat) : Int) ∧ Kp [rp] w w3) := ⟨PBox.kp Hp2.out (Kp.of_below (X := []) hb3) (by simp), Kp.trans Hk2.out (Kp.of_below hb3)⟩
    clear Hcl hb3
    go_wp2
    exact bodyPost_ret (v := .tuple #[.string ⟨#[]⟩, .iface 63 (.agg #[.int .i64 16, .int .i64 S.size])]) (by simp [results, Tryd.results37, go_sem]) rfl ⟨rfl, Hq.out⟩
  · rw [if_neg h3] at hR
    subst hR
    go_enter Tryd.func37, Tryd.ntmps37
    go_wp2_with fail
    refine Calls.mono Hc.out ?_
    rintro e1 w1 ⟨rfl, p1, k1⟩
    have Hk1 : Hid (Kp [rp] w w1) := k1
    have Ht : Hid _ := take_ok w1 rp S (pos + 1) k p1 hS (by omega)
    clear c0 c1 c2 c3 p1 k1 Hc
    go_wp2_with fail
    refine Calls.mono Ht.out ?_
    rintro e2 w2 ⟨rfl, p2, k2⟩
    have Hk2 : Hid (Kp [rp] w w2) := Kp.trans Hk1.out k2
    have Hp2 : Hid (PBox w2 rp S ((pos + 1 + k : Nat) : Int)) := p2
    clear Ht p2 k2
    have Hcl : Hid _ := clone_any (S.extract (pos + 1) (pos + 1 + k)) (by simp [ByteArray.size_extract]; omega) w2
    generalize hT : S.extract (pos + 1) (pos + 1 + k) = T at *
    have HT : Hid (S.extract (pos + 1) (pos + 1 + k) = T) := hT
    clear hT
    go_wp2_with fail
    refine Calls.mono Hcl.out ?_
    rintro e3 w3 ⟨rfl, hb3⟩
    have Hq : Hid (PBox w3 rp S ((pos + 1 + k : Nat) : Int) ∧ Kp [rp] w w3) := ⟨PBox.kp Hp2.out (Kp.of_below (X := []) hb3) (by simp), Kp.trans Hk2.out (Kp.of_below hb3)⟩
    clear Hcl hb3
    go_wp2
    exact bodyPost_ret (v := .tuple #[.string T, .nilIface]) (by simp [results, Tryd.results37, go_sem]) rfl ⟨by rw [HT.out]; rfl, Hq.out⟩
end
end Go.Proofs.YtimdjcffmajmnaaDoor
