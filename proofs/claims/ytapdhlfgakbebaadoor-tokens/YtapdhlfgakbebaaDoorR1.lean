/-
  The walks of the small functions of the second reader: each answers what the plain words say; nothing changes.
-/
import Derived.Test.YtapdhlfgakbebaaDoorW13
namespace Go.Proofs.YtapdhlfgakbebaaDoor
open Go.RowKit
set_option maxHeartbeats 400000 in
theorem digit_any (c : UInt8) (w : World) :
    Calls Tryd.prog 30 #[.int .u8 (c.toNat : Int)] w fun e w' => e = .returned (.bool (Lx.isDigit c)) ∧ w' = w := by
  have h := isDigit_iff c
  go_enter Tryd.func30, Tryd.ntmps30
  cases hd : Lx.isDigit c
  all_goals rw [hd] at h
  all_goals simp at h
  all_goals go_wp2
  all_goals go_ret
  all_goals refine ⟨ret_bool ?_, rfl⟩
  all_goals simp
  all_goals omega
set_option maxHeartbeats 400000 in
theorem small_any (c : UInt8) (w : World) :
    Calls Tryd.prog 33 #[.int .u8 (c.toNat : Int)] w fun e w' => e = .returned (.bool (Lx.isSmall c)) ∧ w' = w := by
  have h := isSmall_iff c
  go_enter Tryd.func33, Tryd.ntmps33
  cases hd : Lx.isSmall c
  all_goals rw [hd] at h
  all_goals simp at h
  all_goals go_wp2
  all_goals go_ret
  all_goals refine ⟨ret_bool ?_, rfl⟩
  all_goals simp
  all_goals omega
set_option maxHeartbeats 400000 in
theorem great_any (c : UInt8) (w : World) :
    Calls Tryd.prog 34 #[.int .u8 (c.toNat : Int)] w fun e w' => e = .returned (.bool (Lx.isGreat c)) ∧ w' = w := by
  have h := isGreat_iff c
  go_enter Tryd.func34, Tryd.ntmps34
  cases hd : Lx.isGreat c
  all_goals rw [hd] at h
  all_goals simp at h
  all_goals go_wp2
  all_goals go_ret
  all_goals refine ⟨ret_bool ?_, rfl⟩
  all_goals simp
  all_goals omega
set_option maxHeartbeats 400000 in
theorem blank_any (c : UInt8) (w : World) :
    Calls Tryd.prog 29 #[.int .u8 (c.toNat : Int)] w fun e w' => e = .returned (.bool (Lx.isBlank c)) ∧ w' = w := by
  have h := isBlank_iff c
  go_enter Tryd.func29, Tryd.ntmps29
  cases hd : Lx.isBlank c
  all_goals rw [hd] at h
  all_goals simp at h
  all_goals go_wp2
  all_goals go_ret
  all_goals refine ⟨ret_bool ?_, rfl⟩
  all_goals (try simp)
  all_goals (try simp at *)
  all_goals omega
set_option maxHeartbeats 400000 in
theorem inName_any (c : UInt8) (w : World) :
    Calls Tryd.prog 42 #[.int .u8 (c.toNat : Int)] w fun e w' => e = .returned (.bool (Lx.inName c)) ∧ w' = w := by
  have Hn : Hid _ := inName_iff c
  have Hd : Hid _ := isDigit_iff c
  have Hs : Hid _ := isSmall_iff c
  have Hg : Hid _ := isGreat_iff c
  go_enter Tryd.func42, Tryd.ntmps42
  cases h1 : Lx.isDigit c <;> cases h2 : Lx.isSmall c <;> cases h3 : Lx.isGreat c
  all_goals go_wp2_with (first | (go_at_call 30; refine (digit_any _ _).mono ?_; rintro e w' ⟨rfl, rfl⟩) | (go_at_call 33; refine (small_any _ _).mono ?_; rintro e w' ⟨rfl, rfl⟩) | (go_at_call 34; refine (great_any _ _).mono ?_; rintro e w' ⟨rfl, rfl⟩))
  all_goals go_ret
  all_goals refine ⟨ret_bool ?_, rfl⟩
  all_goals have q1 := Hn.out
  all_goals have q2 := Hd.out
  all_goals have q3 := Hs.out
  all_goals have q4 := Hg.out
  all_goals rw [h1] at q2
  all_goals rw [h2] at q3
  all_goals rw [h3] at q4
  all_goals rw [Bool.eq_iff_iff, q1]
  all_goals simp at q2 q3 q4 ⊢
  all_goals omega
set_option maxHeartbeats 400000 in
theorem at_any (s p : ByteArray) (i : Int) (w : World) (h0 : 0 ≤ i) (h1 : i ≤ s.size) (hs : s.size ≤ 4000) (hp : p.size ≤ 4000) :
    Calls Tryd.prog 27 #[.string s, .int .i64 i, .string p] w fun e w' => e = .returned (.bool (p.data.toList.isPrefixOf (s.data.toList.drop i.toNat))) ∧ w' = w := by
  go_enter Tryd.func27, Tryd.ntmps27
  go_wp2
  all_goals go_ret
  all_goals refine ⟨ret_bool ?_, rfl⟩
  · rename_i h
    rw [Lib.extract_toList, Lib.toList_data, show (i + (p.size : Int)).toNat - i.toNat = p.data.toList.length from by rw [← Lib.size_eq]; omega]
    exact prefix_take _ _ (by rw [drop_len, ← Lib.size_eq]; omega)
  · rename_i h
    exact (prefix_short _ _ (by rw [drop_len, ← Lib.size_eq]; omega)).symm
set_option maxHeartbeats 400000 in
theorem name_any (s : ByteArray) (a : Int) (w : World) (h0 : 0 ≤ a) (h1 : a ≤ s.size) (hs : s.size ≤ 4000) :
    Calls Tryd.prog 35 #[.string s, .int .i64 a] w fun e w' => e = .returned (.int .i64 (a + (((s.data.toList.drop a.toNat).takeWhile Lx.inName).length : Nat))) ∧ w' = w := by
  obtain ⟨n, hn⟩ : ∃ n, n = ((s.data.toList.drop a.toNat).takeWhile Lx.inName).length := ⟨_, rfl⟩
  rw [← hn]
  have HN : Hid _ := hn
  clear hn
  go_enter Tryd.func35, Tryd.ntmps35
  go_wp2_with fail
  go_loop [1] (fun i => ∃ k : Nat, a + k ≤ s.size ∧ i = .int .i64 (a + k) ∧ Hid (n = k + ((s.data.toList.drop (a + k).toNat).takeWhile Lx.inName).length)) (fun i => s.size - (intOf i).toNat)
  case atStart => exact ⟨0, by omega, val_int (by omega), by have := HN.out; unfold Hid; simpa using this⟩
  case round =>
    obtain ⟨k, hk, rfl, Hk⟩ := hrel
    by_cases hlt : a + k < s.size
    · have hl : (a + k).toNat < s.size := by omega
      have hd := drop_at s (a + k).toNat hl
      have hks := Hk.out
      rw [hd] at hks
      cases hc : Lx.inName (s[(a + k).toNat]'hl)
      · have hfin : n = k := by simpa [hc] using hks
        have Hfin : Hid _ := hfin
        clear hfin hks hd Hk
        go_wp2_with (go_at_call 42; refine (inName_any _ _).mono ?_; rintro e w' ⟨rfl, rfl⟩)
        go_ret
        exact ⟨ret_int (by rw [Hfin.out]), rfl⟩
      · have hnx : Hid (n = k + 1 + ((s.data.toList.drop (a + (k + 1 : Nat)).toNat).takeWhile Lx.inName).length) := by
          unfold Hid
          simp only [List.takeWhile_cons, hc, if_true, List.length_cons] at hks
          rw [show (a + ((k + 1 : Nat) : Int)).toNat = (a + (k : Int)).toNat + 1 from by omega]
          omega
        clear hks hd Hk
        go_wp2_with (go_at_call 42; refine (inName_any _ _).mono ?_; rintro e w' ⟨rfl, rfl⟩)
        go_round
        case rel => exact ⟨k + 1, by omega, val_int (by omega), hnx⟩
        case measure => simp [intOf]; omega
    · have hfin : n = k := by
        have := Hk.out
        rw [drop_end s _ (by omega)] at this
        simpa using this
      have Hfin : Hid _ := hfin
      clear hfin Hk
      go_wp2_with (go_at_call 42; refine (inName_any _ _).mono ?_; rintro e w' ⟨rfl, rfl⟩)
      go_ret
      exact ⟨ret_int (by rw [Hfin.out]), rfl⟩
end Go.Proofs.YtapdhlfgakbebaaDoor
