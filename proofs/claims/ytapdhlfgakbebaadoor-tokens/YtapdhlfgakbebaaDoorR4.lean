/-
  The walk of variable of the second reader: the place behind a type variable, or -1; nothing changes.
-/
import Derived.Test.YtapdhlfgakbebaaDoorR3
namespace Go.Proofs.YtapdhlfgakbebaaDoor
open Go.RowKit
/-- The place behind a token, or -1. -/
def varEnd (a : Int) : Option (Lx.Tok × Nat) → Int
  | none => -1
  | some (_, k) => a + k

set_option maxHeartbeats 2000000 in
set_option maxRecDepth 100000 in
theorem variable_2 (s : ByteArray) (a : Int) (w : World) (h0 : 0 ≤ a) (h1 : a < s.size) (hs : s.size ≤ 4000) (hq : [39].isPrefixOf (s.data.toList.drop (a + 1).toNat) = true) :
    Calls Tryd.prog 32 #[.string s, .int .i64 a] w fun e w' => e = .returned (.int .i64 (varEnd a (Lx.tokVarAt 2 (s.data.toList.drop a.toNat)))) ∧ w' = w := by
  have hl := (List.isPrefixOf_iff_prefix.1 hq).length_le
  rw [drop_len] at hl
  simp at hl
  have hlt : a + 1 < s.size := by omega
  have hln : (a + 1).toNat < s.size := by omega
  have hle : a + 1 + 1 ≤ s.size := by omega
  have htest : (((s[(a + 1).toNat]'hln).toNat : Int) == 39) = true := by
    rw [drop_at s _ hln] at hq
    simp [List.isPrefixOf] at hq
    rw [← hq]
    rfl
  clear hl
  have hd : (s.data.toList.drop a.toNat).drop 2 = s.data.toList.drop (a + 1 + 1).toNat := by rw [List.drop_drop, show a.toNat + 2 = (a + 1 + 1).toNat from by omega]
  have hR : varEnd a (Lx.tokVarAt 2 (s.data.toList.drop a.toNat)) = (if ((s.data.toList.drop (a + 1 + 1).toNat).takeWhile Lx.isSmall).length = 0 then -1 else if 20 < ((s.data.toList.drop (a + 1 + 1).toNat).takeWhile Lx.inVar).length then -1 else a + 1 + 1 + (((s.data.toList.drop (a + 1 + 1).toNat).takeWhile Lx.inVar).length : Nat)) := by
    unfold Lx.tokVarAt
    rw [hd]
    split
    · rfl
    · split
      · rfl
      · simp only [varEnd]
        omega
  have hns : ((s.data.toList.drop (a + 1 + 1).toNat).takeWhile Lx.isSmall).length = 0 ↔ ∀ h : (a + 1 + 1).toNat < s.size, Lx.isSmall (s[(a + 1 + 1).toNat]'h) = false := by
    constructor
    · intro h hl
      rw [drop_at s _ hl] at h
      cases hc : Lx.isSmall (s[(a + 1 + 1).toNat]'hl)
      · rfl
      · simp [hc] at h
    · intro h
      by_cases hl : (a + 1 + 1).toNat < s.size
      · rw [drop_at s _ hl]
        simp [h hl]
      · rw [drop_end s _ (by omega)]
        rfl
  rw [hR]
  clear hR hd hq
  generalize hNS : ((s.data.toList.drop (a + 1 + 1).toNat).takeWhile Lx.isSmall).length = ns at *
  generalize hNV : ((s.data.toList.drop (a + 1 + 1).toNat).takeWhile Lx.inVar).length = nv at *
  generalize hRR : (if ns = 0 then (-1 : Int) else if 20 < nv then -1 else a + 1 + 1 + (nv : Int)) = R
  have HR : Hid _ := hRR
  have HNV : Hid _ := hNV
  have HNS : Hid _ := hns
  clear hRR hNV hNS hns
  go_enter Tryd.func32, Tryd.ntmps32
  go_wp2_with fail
  clear htest
  go_loop [1] (fun i => ∃ k : Nat, a + 1 + 1 + k ≤ s.size ∧ i = .int .i64 (a + 1 + 1 + k) ∧ Hid (k = 0 ∨ (1 ≤ k ∧ ns ≠ 0 ∧ nv = k + ((s.data.toList.drop (a + 1 + 1 + k).toNat).takeWhile Lx.inVar).length))) (fun i => s.size - (intOf i).toNat)
  case atStart => exact ⟨0, by omega, val_int (by omega), Or.inl rfl⟩
  case round =>
    obtain ⟨k, hk, rfl, Hk⟩ := hrel
    have fin0 : Hid (k = 0 → ns = 0 → R = -1) := by
      intro _ e
      rw [← HR.out, if_pos e]
    have fin1 : Hid (1 ≤ k → ns ≠ 0 → nv = k → R = if 20 < k then -1 else a + 1 + 1 + (k : Int)) := by
      intro _ e e2
      rw [← HR.out, if_neg e, e2]
    by_cases hlt : a + 1 + 1 + k < s.size
    · have hln : (a + 1 + 1 + k).toNat < s.size := by omega
      have hdr := drop_at s (a + 1 + 1 + k).toNat hln
      by_cases hk0 : k = 0
      · subst hk0
        have e0 : ((a + 1 + 1 + ((0 : Nat) : Int))).toNat = (a + 1 + 1).toNat := by omega
        have h000 : a + 1 + 1 + ((0 : Nat) : Int) = a + 1 + 1 := by omega
        have hln0 : (a + 1 + 1).toNat < s.size := by omega
        cases hsm : Lx.isSmall (s[(a + 1 + 1).toNat]'hln0)
        · have hRm : Hid (R = -1) := fin0.out rfl (HNS.out.2 (fun _ => hsm))
          clear fin0 fin1 Hk hdr e0
          simp only [h000] at hlt hk ⊢
          clear h000
          go_wp2_with (first | (go_at_call 33; refine (small_any _ _).mono ?_; rintro e w' ⟨rfl, rfl⟩) | (go_at_call 30; refine (digit_any _ _).mono ?_; rintro e w' ⟨rfl, rfl⟩))
          go_ret
          exact ⟨ret_int hRm.out.symm, rfl⟩
        · have hne : ns ≠ 0 := fun e => by have := HNS.out.1 e hln0; rw [hsm] at this; exact absurd this (by decide)
          have hn1 : Hid (1 = 0 ∨ (1 ≤ 1 ∧ ns ≠ 0 ∧ nv = 1 + ((s.data.toList.drop (a + 1 + 1 + ((1 : Nat) : Int)).toNat).takeWhile Lx.inVar).length)) := by
            refine Or.inr ⟨by omega, hne, ?_⟩
            rw [← HNV.out, drop_at s _ hln0, show ((a + 1 + 1) + ((1 : Nat) : Int)).toNat = (a + 1 + 1).toNat + 1 from by omega]
            have : Lx.inVar (s[(a + 1 + 1).toNat]'hln0) = true := by unfold Lx.inVar; rw [hsm]; rfl
            simp [this]
            omega
          clear fin0 fin1 Hk hdr e0 hne
          simp only [h000] at hlt hk ⊢
          clear h000
          go_wp2_with (first | (go_at_call 33; refine (small_any _ _).mono ?_; rintro e w' ⟨rfl, rfl⟩) | (go_at_call 30; refine (digit_any _ _).mono ?_; rintro e w' ⟨rfl, rfl⟩))
          go_round
          case rel => exact ⟨1, by omega, val_int (by omega), hn1⟩
          case measure => simp [intOf]; omega
      · rcases Hk.out with hk' | ⟨hk1, hns0, hnv⟩
        · exact absurd hk' hk0
        · have hgt : a + 1 + 1 < a + 1 + 1 + (k : Int) := by omega
          rw [hdr] at hnv
          cases hiv : Lx.inVar (s[(a + 1 + 1 + k).toNat]'hln)
          · have hnk : nv = k := by simpa [hiv] using hnv
            have hRm := fin1.out hk1 hns0 hnk
            have hs1 : Lx.isSmall (s[(a + 1 + 1 + k).toNat]'hln) = false := by unfold Lx.inVar at hiv; cases h : Lx.isSmall (s[(a + 1 + 1 + k).toNat]'hln) <;> simp_all
            have hs2 : Lx.isDigit (s[(a + 1 + 1 + k).toNat]'hln) = false := by unfold Lx.inVar at hiv; cases h : Lx.isDigit (s[(a + 1 + 1 + k).toNat]'hln) <;> simp_all
            have hkne : (a + 1 + 1 + (k : Int) == a + 1 + 1) = false := by rw [beq_eq_false_iff_ne]; omega
            clear hnv hdr hiv hnk Hk fin0 fin1 hk0 HNS HNV HR
            by_cases h20 : 20 < k
            · have h20' : (20 : Int) < k := by omega
              have hRm' : Hid (R = -1) := by rw [if_pos h20] at hRm; exact hRm
              clear hRm
              go_wp2_with (first | (go_at_call 33; refine (small_any _ _).mono ?_; rintro e w' ⟨rfl, rfl⟩) | (go_at_call 30; refine (digit_any _ _).mono ?_; rintro e w' ⟨rfl, rfl⟩))
              go_ret
              exact ⟨ret_int hRm'.out.symm, rfl⟩
            · have h20' : ¬ (20 : Int) < k := by omega
              have hRm' : Hid (R = a + 1 + 1 + (k : Int)) := by rw [if_neg h20] at hRm; exact hRm
              clear hRm
              go_wp2_with (first | (go_at_call 33; refine (small_any _ _).mono ?_; rintro e w' ⟨rfl, rfl⟩) | (go_at_call 30; refine (digit_any _ _).mono ?_; rintro e w' ⟨rfl, rfl⟩))
              go_ret
              exact ⟨ret_int hRm'.out.symm, rfl⟩
          · have hn1 : Hid (k + 1 = 0 ∨ (1 ≤ k + 1 ∧ ns ≠ 0 ∧ nv = k + 1 + ((s.data.toList.drop (a + 1 + 1 + ((k + 1 : Nat) : Int)).toNat).takeWhile Lx.inVar).length)) := by
              refine Or.inr ⟨by omega, hns0, ?_⟩
              rw [hnv, show ((a + 1 + 1) + ((k + 1 : Nat) : Int)).toNat = (a + 1 + 1 + (k : Int)).toNat + 1 from by omega]
              simp [hiv]
              omega
            clear hnv hdr Hk fin0 fin1 hk0 HNS HNV HR
            cases hs1 : Lx.isSmall (s[(a + 1 + 1 + k).toNat]'hln)
            · have hs2 : Lx.isDigit (s[(a + 1 + 1 + k).toNat]'hln) = true := by unfold Lx.inVar at hiv; rw [hs1] at hiv; exact hiv
              clear hiv
              go_wp2_with (first | (go_at_call 33; refine (small_any _ _).mono ?_; rintro e w' ⟨rfl, rfl⟩) | (go_at_call 30; refine (digit_any _ _).mono ?_; rintro e w' ⟨rfl, rfl⟩))
              go_round
              case rel => exact ⟨k + 1, by omega, val_int (by omega), hn1⟩
              case measure => simp [intOf]; omega
            · clear hiv
              go_wp2_with (first | (go_at_call 33; refine (small_any _ _).mono ?_; rintro e w' ⟨rfl, rfl⟩) | (go_at_call 30; refine (digit_any _ _).mono ?_; rintro e w' ⟨rfl, rfl⟩))
              go_round
              case rel => exact ⟨k + 1, by omega, val_int (by omega), hn1⟩
              case measure => simp [intOf]; omega
    · by_cases hk0 : k = 0
      · subst hk0
        have hRm : Hid (R = -1) := fin0.out rfl (HNS.out.2 (fun hh => absurd hh (by omega)))
        have h000 : a + 1 + 1 + ((0 : Nat) : Int) = a + 1 + 1 := by omega
        clear fin0 fin1 Hk HNS HNV HR
        simp only [h000] at hlt hk ⊢
        clear h000
        go_wp2
        go_ret
        exact ⟨ret_int hRm.out.symm, rfl⟩
      · rcases Hk.out with hk' | ⟨hk1, hns0, hnv⟩
        · exact absurd hk' hk0
        · rw [drop_end s _ (by omega)] at hnv
          have hnk : nv = k := by simpa using hnv
          have hRm := fin1.out hk1 hns0 hnk
          have hkne : (a + 1 + 1 + (k : Int) == a + 1 + 1) = false := by rw [beq_eq_false_iff_ne]; omega
          clear hnv hnk Hk fin0 fin1 hk0 HNS HNV HR
          by_cases h20 : 20 < k
          · have h20' : (20 : Int) < k := by omega
            have hRm' : Hid (R = -1) := by rw [if_pos h20] at hRm; exact hRm
            clear hRm
            go_wp2
            go_ret
            exact ⟨ret_int hRm'.out.symm, rfl⟩
          · have h20' : ¬ (20 : Int) < k := by omega
            have hRm' : Hid (R = a + 1 + 1 + (k : Int)) := by rw [if_neg h20] at hRm; exact hRm
            clear hRm
            go_wp2
            go_ret
            exact ⟨ret_int hRm'.out.symm, rfl⟩

set_option maxHeartbeats 2000000 in
set_option maxRecDepth 100000 in
theorem variable_1 (s : ByteArray) (a : Int) (w : World) (h0 : 0 ≤ a) (h1 : a < s.size) (hs : s.size ≤ 4000) (hq : [39].isPrefixOf (s.data.toList.drop (a + 1).toNat) = false) :
    Calls Tryd.prog 32 #[.string s, .int .i64 a] w fun e w' => e = .returned (.int .i64 (varEnd a (Lx.tokVarAt 1 (s.data.toList.drop a.toNat)))) ∧ w' = w := by
  have hle : a + 1 ≤ s.size := by omega
  have htest : a + 1 < s.size → ∀ h, (((s[(a + 1).toNat]'h).toNat : Int) == 39) = false := by
    intro hlt h
    rw [drop_at s _ h] at hq
    rw [beq_eq_false_iff_ne]
    intro e
    have : s[(a + 1).toNat]'h = 39 := u8_of (k := 39) (by omega) e
    rw [this] at hq
    simp [List.isPrefixOf] at hq
  have Ht : Hid _ := htest
  clear htest
  have hd : (s.data.toList.drop a.toNat).drop 1 = s.data.toList.drop (a + 1).toNat := by rw [List.drop_drop, show a.toNat + 1 = (a + 1).toNat from by omega]
  have hR : varEnd a (Lx.tokVarAt 1 (s.data.toList.drop a.toNat)) = (if ((s.data.toList.drop (a + 1).toNat).takeWhile Lx.isSmall).length = 0 then -1 else if 20 < ((s.data.toList.drop (a + 1).toNat).takeWhile Lx.inVar).length then -1 else a + 1 + (((s.data.toList.drop (a + 1).toNat).takeWhile Lx.inVar).length : Nat)) := by
    unfold Lx.tokVarAt
    rw [hd]
    split
    · rfl
    · split
      · rfl
      · simp only [varEnd]
        omega
  have hns : ((s.data.toList.drop (a + 1).toNat).takeWhile Lx.isSmall).length = 0 ↔ ∀ h : (a + 1).toNat < s.size, Lx.isSmall (s[(a + 1).toNat]'h) = false := by
    constructor
    · intro h hl
      rw [drop_at s _ hl] at h
      cases hc : Lx.isSmall (s[(a + 1).toNat]'hl)
      · rfl
      · simp [hc] at h
    · intro h
      by_cases hl : (a + 1).toNat < s.size
      · rw [drop_at s _ hl]
        simp [h hl]
      · rw [drop_end s _ (by omega)]
        rfl
  rw [hR]
  clear hR hd hq
  generalize hNS : ((s.data.toList.drop (a + 1).toNat).takeWhile Lx.isSmall).length = ns at *
  generalize hNV : ((s.data.toList.drop (a + 1).toNat).takeWhile Lx.inVar).length = nv at *
  generalize hRR : (if ns = 0 then (-1 : Int) else if 20 < nv then -1 else a + 1 + (nv : Int)) = R
  have HR : Hid _ := hRR
  have HNV : Hid _ := hNV
  have HNS : Hid _ := hns
  clear hRR hNV hNS hns
  by_cases hlt1 : a + 1 < s.size
  · have htest := Ht.out hlt1 (by omega)
    clear Ht
    go_enter Tryd.func32, Tryd.ntmps32
    go_wp2_with fail
    clear htest
    go_loop [1] (fun i => ∃ k : Nat, a + 1 + k ≤ s.size ∧ i = .int .i64 (a + 1 + k) ∧ Hid (k = 0 ∨ (1 ≤ k ∧ ns ≠ 0 ∧ nv = k + ((s.data.toList.drop (a + 1 + k).toNat).takeWhile Lx.inVar).length))) (fun i => s.size - (intOf i).toNat)
    case atStart => exact ⟨0, by omega, val_int (by omega), Or.inl rfl⟩
    case round =>
      obtain ⟨k, hk, rfl, Hk⟩ := hrel
      have fin0 : Hid (k = 0 → ns = 0 → R = -1) := by
        intro _ e
        rw [← HR.out, if_pos e]
      have fin1 : Hid (1 ≤ k → ns ≠ 0 → nv = k → R = if 20 < k then -1 else a + 1 + (k : Int)) := by
        intro _ e e2
        rw [← HR.out, if_neg e, e2]
      by_cases hlt : a + 1 + k < s.size
      · have hln : (a + 1 + k).toNat < s.size := by omega
        have hdr := drop_at s (a + 1 + k).toNat hln
        by_cases hk0 : k = 0
        · subst hk0
          have e0 : ((a + 1 + ((0 : Nat) : Int))).toNat = (a + 1).toNat := by omega
          have h000 : a + 1 + ((0 : Nat) : Int) = a + 1 := by omega
          have hln0 : (a + 1).toNat < s.size := by omega
          cases hsm : Lx.isSmall (s[(a + 1).toNat]'hln0)
          · have hRm : Hid (R = -1) := fin0.out rfl (HNS.out.2 (fun _ => hsm))
            clear fin0 fin1 Hk hdr e0
            simp only [h000] at hlt hk ⊢
            clear h000
            go_wp2_with (first | (go_at_call 33; refine (small_any _ _).mono ?_; rintro e w' ⟨rfl, rfl⟩) | (go_at_call 30; refine (digit_any _ _).mono ?_; rintro e w' ⟨rfl, rfl⟩))
            go_ret
            exact ⟨ret_int hRm.out.symm, rfl⟩
          · have hne : ns ≠ 0 := fun e => by have := HNS.out.1 e hln0; rw [hsm] at this; exact absurd this (by decide)
            have hn1 : Hid (1 = 0 ∨ (1 ≤ 1 ∧ ns ≠ 0 ∧ nv = 1 + ((s.data.toList.drop (a + 1 + ((1 : Nat) : Int)).toNat).takeWhile Lx.inVar).length)) := by
              refine Or.inr ⟨by omega, hne, ?_⟩
              rw [← HNV.out, drop_at s _ hln0, show ((a + 1) + ((1 : Nat) : Int)).toNat = (a + 1).toNat + 1 from by omega]
              have : Lx.inVar (s[(a + 1).toNat]'hln0) = true := by unfold Lx.inVar; rw [hsm]; rfl
              simp [this]
              omega
            clear fin0 fin1 Hk hdr e0 hne
            simp only [h000] at hlt hk ⊢
            clear h000
            go_wp2_with (first | (go_at_call 33; refine (small_any _ _).mono ?_; rintro e w' ⟨rfl, rfl⟩) | (go_at_call 30; refine (digit_any _ _).mono ?_; rintro e w' ⟨rfl, rfl⟩))
            go_round
            case rel => exact ⟨1, by omega, val_int (by omega), hn1⟩
            case measure => simp [intOf]; omega
        · rcases Hk.out with hk' | ⟨hk1, hns0, hnv⟩
          · exact absurd hk' hk0
          · have hgt : a + 1 < a + 1 + (k : Int) := by omega
            rw [hdr] at hnv
            cases hiv : Lx.inVar (s[(a + 1 + k).toNat]'hln)
            · have hnk : nv = k := by simpa [hiv] using hnv
              have hRm := fin1.out hk1 hns0 hnk
              have hs1 : Lx.isSmall (s[(a + 1 + k).toNat]'hln) = false := by unfold Lx.inVar at hiv; cases h : Lx.isSmall (s[(a + 1 + k).toNat]'hln) <;> simp_all
              have hs2 : Lx.isDigit (s[(a + 1 + k).toNat]'hln) = false := by unfold Lx.inVar at hiv; cases h : Lx.isDigit (s[(a + 1 + k).toNat]'hln) <;> simp_all
              have hkne : (a + 1 + (k : Int) == a + 1) = false := by rw [beq_eq_false_iff_ne]; omega
              clear hnv hdr hiv hnk Hk fin0 fin1 hk0 HNS HNV HR
              by_cases h20 : 20 < k
              · have h20' : (20 : Int) < k := by omega
                have hRm' : Hid (R = -1) := by rw [if_pos h20] at hRm; exact hRm
                clear hRm
                go_wp2_with (first | (go_at_call 33; refine (small_any _ _).mono ?_; rintro e w' ⟨rfl, rfl⟩) | (go_at_call 30; refine (digit_any _ _).mono ?_; rintro e w' ⟨rfl, rfl⟩))
                go_ret
                exact ⟨ret_int hRm'.out.symm, rfl⟩
              · have h20' : ¬ (20 : Int) < k := by omega
                have hRm' : Hid (R = a + 1 + (k : Int)) := by rw [if_neg h20] at hRm; exact hRm
                clear hRm
                go_wp2_with (first | (go_at_call 33; refine (small_any _ _).mono ?_; rintro e w' ⟨rfl, rfl⟩) | (go_at_call 30; refine (digit_any _ _).mono ?_; rintro e w' ⟨rfl, rfl⟩))
                go_ret
                exact ⟨ret_int hRm'.out.symm, rfl⟩
            · have hn1 : Hid (k + 1 = 0 ∨ (1 ≤ k + 1 ∧ ns ≠ 0 ∧ nv = k + 1 + ((s.data.toList.drop (a + 1 + ((k + 1 : Nat) : Int)).toNat).takeWhile Lx.inVar).length)) := by
                refine Or.inr ⟨by omega, hns0, ?_⟩
                rw [hnv, show ((a + 1) + ((k + 1 : Nat) : Int)).toNat = (a + 1 + (k : Int)).toNat + 1 from by omega]
                simp [hiv]
                omega
              clear hnv hdr Hk fin0 fin1 hk0 HNS HNV HR
              cases hs1 : Lx.isSmall (s[(a + 1 + k).toNat]'hln)
              · have hs2 : Lx.isDigit (s[(a + 1 + k).toNat]'hln) = true := by unfold Lx.inVar at hiv; rw [hs1] at hiv; exact hiv
                clear hiv
                go_wp2_with (first | (go_at_call 33; refine (small_any _ _).mono ?_; rintro e w' ⟨rfl, rfl⟩) | (go_at_call 30; refine (digit_any _ _).mono ?_; rintro e w' ⟨rfl, rfl⟩))
                go_round
                case rel => exact ⟨k + 1, by omega, val_int (by omega), hn1⟩
                case measure => simp [intOf]; omega
              · clear hiv
                go_wp2_with (first | (go_at_call 33; refine (small_any _ _).mono ?_; rintro e w' ⟨rfl, rfl⟩) | (go_at_call 30; refine (digit_any _ _).mono ?_; rintro e w' ⟨rfl, rfl⟩))
                go_round
                case rel => exact ⟨k + 1, by omega, val_int (by omega), hn1⟩
                case measure => simp [intOf]; omega
      · by_cases hk0 : k = 0
        · subst hk0
          exact absurd hlt1 (by omega)
        · rcases Hk.out with hk' | ⟨hk1, hns0, hnv⟩
          · exact absurd hk' hk0
          · rw [drop_end s _ (by omega)] at hnv
            have hnk : nv = k := by simpa using hnv
            have hRm := fin1.out hk1 hns0 hnk
            have hkne : (a + 1 + (k : Int) == a + 1) = false := by rw [beq_eq_false_iff_ne]; omega
            clear hnv hnk Hk fin0 fin1 hk0 HNS HNV HR
            by_cases h20 : 20 < k
            · have h20' : (20 : Int) < k := by omega
              have hRm' : Hid (R = -1) := by rw [if_pos h20] at hRm; exact hRm
              clear hRm
              go_wp2
              go_ret
              exact ⟨ret_int hRm'.out.symm, rfl⟩
            · have h20' : ¬ (20 : Int) < k := by omega
              have hRm' : Hid (R = a + 1 + (k : Int)) := by rw [if_neg h20] at hRm; exact hRm
              clear hRm
              go_wp2
              go_ret
              exact ⟨ret_int hRm'.out.symm, rfl⟩
  · clear Ht
    have hRm : Hid (R = -1) := by
      have e : ns = 0 := HNS.out.2 (fun hh => absurd hh (by omega))
      unfold Hid
      rw [← HR.out, if_pos e]
    clear HNS HNV HR
    go_enter Tryd.func32, Tryd.ntmps32
    go_wp2_with fail
    go_loop [1] (fun i => i = .int .i64 (a + 1)) (fun i => s.size - (intOf i).toNat)
    case atStart => rfl
    case round =>
      obtain rfl := hrel
      go_wp2
      go_ret
      exact ⟨ret_int hRm.out.symm, rfl⟩

theorem variable_any (s : ByteArray) (a : Int) (w : World) (h0 : 0 ≤ a) (h1 : a < s.size) (hs : s.size ≤ 4000) :
    Calls Tryd.prog 32 #[.string s, .int .i64 a] w fun e w' => e = .returned (.int .i64 (varEnd a (Lx.tokVar (s.data.toList.drop a.toNat)))) ∧ w' = w := by
  have hd : (s.data.toList.drop a.toNat).drop 1 = s.data.toList.drop (a + 1).toNat := by rw [List.drop_drop, show a.toNat + 1 = (a + 1).toNat from by omega]
  unfold Lx.tokVar
  rw [hd]
  cases hq : [39].isPrefixOf (s.data.toList.drop (a + 1).toNat)
  · exact variable_1 s a w h0 h1 hs hq
  · exact variable_2 s a w h0 h1 hs hq
end Go.Proofs.YtapdhlfgakbebaaDoor
