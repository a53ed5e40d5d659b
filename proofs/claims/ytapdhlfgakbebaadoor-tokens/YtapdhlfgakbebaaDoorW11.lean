/-
  The walk of skip: over blanks and comments to where they are over, or to where a comment begins that does not end; nothing old changes.
-/
import Derived.Test.YtapdhlfgakbebaaDoorGap
namespace Go.Proofs.YtapdhlfgakbebaaDoor
open Go.RowKit
set_option maxHeartbeats 4000000 in
set_option maxRecDepth 100000 in
theorem skip_any (s : ByteArray) (a : Int) (w : World) (h0 : 0 ≤ a) (h1 : a ≤ s.size) (hs : s.size ≤ 4000) (hA : ∀ i (h : i < s.size), (s[i]'h).toNat < 128) :
    Calls Tryd.prog 15 #[.string s, .int .i64 a] w fun e w' => e = .returned (.tuple #[.int .i64 (a + ((Lx.gap (s.data.toList.drop a.toNat)).1 : Nat)), .bool (Lx.gap (s.data.toList.drop a.toNat)).2]) ∧ Below w.heap.size w w' := by
  have hfirst := gp_first s a h0 h1 0
  generalize Lx.gap (s.data.toList.drop a.toNat) = G at *
  have Hst : Hid (GapState s a G 0 a 0 0) := hfirst
  clear hfirst
  go_enter Tryd.func15, Tryd.ntmps15
  go_wp2
  refine wp_scope_at (X := Int × Int × Int × List Value) (fun (i, b, d, u) => { tmps := #[.string s, .int .i64 i, undef, undef, slotOf u 0, slotOf u 1, .int .i64 b, .int .i64 d, slotOf u 2, slotOf u 3, slotOf u 4, slotOf u 5, slotOf u 6, slotOf u 7, slotOf u 8, slotOf u 9, slotOf u 10, slotOf u 11, slotOf u 12, slotOf u 13, slotOf u 14, slotOf u 15, slotOf u 16, slotOf u 17, slotOf u 18, slotOf u 19, slotOf u 20, slotOf u 21, slotOf u 22, slotOf u 23, slotOf u 24, slotOf u 25, slotOf u 26, slotOf u 27, slotOf u 28, slotOf u 29, slotOf u 30, slotOf u 31, slotOf u 32, slotOf u 33, slotOf u 34, slotOf u 35, slotOf u 36, slotOf u 37, slotOf u 38, slotOf u 39], defers := [] })
    (fun l (i, b, d, u) w' => Below w.heap.size w w' ∧ Hid (GapState s a G l i b d))
    (fun l (i, b, d, u) => 4 * (s.size - i.toNat) + (if l = 0 then 3 else if l = 3 then 2 else 1)) ?_ ?_
  · go_wp2
    go_step3
    have hbe0 : Below w.heap.size w w := Below.refl _ _
    obtain ⟨i, hia⟩ : ∃ i, i = a := ⟨_, rfl⟩
    have Hst2 : Hid (GapState s a G 0 i 0 0) := by rw [hia]; exact Hst
    have Hst := Hst2
    clear Hst2
    rw [← hia]
    clear hia
    obtain ⟨hi0', hi1', hd0, _⟩ := Hst.out
    have hfl := front_le Lx.isBlank (s.data.toList.drop i.toNat)
    rw [drop_len] at hfl
    have HS0 : Hid _ := gp_stop Hst.out
    have HS1 : Hid _ := gp_begin Hst.out
    clear hd0
    clear Hst
    go_wp2_with fail
    refine (span_any s i 1 _ (by omega) (by omega) hs hA).mono ?_
    rintro e w1 ⟨rfl, hb1⟩
    rw [inS_blank]
    have hbe := Below.then hbe0 hb1 (Nat.le_refl _)
    clear hb1 hbe0
    generalize ((s.data.toList.drop i.toNat).takeWhile Lx.isBlank).length = n at *
    cases hp0 : [40, 42].isPrefixOf (s.data.toList.drop (i + (n : Int)).toNat)
    · obtain ⟨hG2, hG1⟩ := HS0.out hp0
      have HG2 : Hid _ := hG2
      have HG1 : Hid _ := hG1
      clear HS0 HS1 hG2 hG1
      go_wp2_with (go_at_call 20; refine (hasPrefixAt _ _ _ _).mono ?_; rintro e w' ⟨rfl, rfl⟩)
      rw [exitJumps_ret]
      go_ret2
      exact ⟨by rw [HG1.out, HG2.out]; rfl, hbe⟩
    · have Hst : Hid _ := gp_opened (HS1.out hp0)
      clear HS0 HS1
      obtain ⟨hi0, hi1, hd, _⟩ := Hst.out
      by_cases hend : (s.size : Int) ≤ i + (n : Int) + 2
      · obtain ⟨hG2, hG1⟩ := gp_end Hst.out hend
        have HG2 : Hid _ := hG2
        have HG1 : Hid _ := hG1
        clear Hst hG2 hG1
        go_wp2_with (go_at_call 20; refine (hasPrefixAt _ _ _ _).mono ?_; rintro e w' ⟨rfl, rfl⟩)
        go_step3
        go_wp2_with (go_at_call 20; refine (hasPrefixAt _ _ _ _).mono ?_; rintro e w' ⟨rfl, rfl⟩)
        go_step3
        go_wp2_with (go_at_call 20; refine (hasPrefixAt _ _ _ _).mono ?_; rintro e w' ⟨rfl, rfl⟩)
        rw [exitJumps_ret]
        go_ret2
        exact ⟨by rw [HG1.out, HG2.out]; rfl, hbe⟩
      · have hlt : (i + (n : Int) + 2).toNat < s.size := by omega
        cases hp : [40, 42].isPrefixOf (s.data.toList.drop (i + (n : Int) + 2).toNat)
        · cases hq : [42, 41].isPrefixOf (s.data.toList.drop (i + (n : Int) + 2).toNat)
          · have HR : Hid (GapState s a G 3 (i + (n : Int) + 2 + 1) (i + (n : Int)) ((0 : Int) + 1)) := gp_on Hst.out hlt hp hq
            clear Hst
            go_wp2_with (go_at_call 20; refine (hasPrefixAt _ _ _ _).mono ?_; rintro e w' ⟨rfl, rfl⟩)
            go_step3
            go_wp2_with (go_at_call 20; refine (hasPrefixAt _ _ _ _).mono ?_; rintro e w' ⟨rfl, rfl⟩)
            go_step3
            go_wp2_with (go_at_call 20; refine (hasPrefixAt _ _ _ _).mono ?_; rintro e w' ⟨rfl, rfl⟩)
            go_step3
            exact @Exists.intro (Int × Int × Int × List Value) _ (i + (n : Int) + 2 + 1, i + (n : Int), (0 : Int) + 1, [_, _, _, _, _, _, _, _, _, _, _, _, _, _, _, _, _, _, _, _, _, _, _, _, _, _, _, _, _, _, _, _, _, _, _, _, _, _, _, _]) ⟨rfl, ⟨hbe, HR⟩⟩
          · have HR : Hid (GapState s a G 2 (i + (n : Int) + 2) (i + (n : Int)) ((0 : Int) + 1)) := gp_close Hst.out hlt hp hq
            clear Hst
            go_wp2_with (go_at_call 20; refine (hasPrefixAt _ _ _ _).mono ?_; rintro e w' ⟨rfl, rfl⟩)
            go_step3
            go_wp2_with (go_at_call 20; refine (hasPrefixAt _ _ _ _).mono ?_; rintro e w' ⟨rfl, rfl⟩)
            go_step3
            go_wp2_with (go_at_call 20; refine (hasPrefixAt _ _ _ _).mono ?_; rintro e w' ⟨rfl, rfl⟩)
            go_step3
            exact @Exists.intro (Int × Int × Int × List Value) _ (i + (n : Int) + 2, i + (n : Int), (0 : Int) + 1, [_, _, _, _, _, _, _, _, _, _, _, _, _, _, _, _, _, _, _, _, _, _, _, _, _, _, _, _, _, _, _, _, _, _, _, _, _, _, _, _]) ⟨rfl, ⟨hbe, HR⟩⟩
        · have HR : Hid (GapState s a G 1 (i + (n : Int) + 2) (i + (n : Int)) ((0 : Int) + 1)) := gp_open Hst.out hlt hp
          clear Hst
          go_wp2_with (go_at_call 20; refine (hasPrefixAt _ _ _ _).mono ?_; rintro e w' ⟨rfl, rfl⟩)
          go_step3
          go_wp2_with (go_at_call 20; refine (hasPrefixAt _ _ _ _).mono ?_; rintro e w' ⟨rfl, rfl⟩)
          go_step3
          go_wp2_with (go_at_call 20; refine (hasPrefixAt _ _ _ _).mono ?_; rintro e w' ⟨rfl, rfl⟩)
          go_step3
          exact @Exists.intro (Int × Int × Int × List Value) _ (i + (n : Int) + 2, i + (n : Int), (0 : Int) + 1, [_, _, _, _, _, _, _, _, _, _, _, _, _, _, _, _, _, _, _, _, _, _, _, _, _, _, _, _, _, _, _, _, _, _, _, _, _, _, _, _]) ⟨rfl, ⟨hbe, HR⟩⟩
  · rintro l ⟨i, b, d, u⟩ wr ⟨hbe0, Hst⟩
    simp only
    match l, Hst with
    | 0, Hst =>
      refine ⟨_, rfl, ?_⟩
      obtain ⟨hi0', hi1', hd0, _⟩ := Hst.out
      have hfl := front_le Lx.isBlank (s.data.toList.drop i.toNat)
      rw [drop_len] at hfl
      have HS0 : Hid _ := gp_stop Hst.out
      have HS1 : Hid _ := gp_begin Hst.out
      subst hd0
      clear Hst
      go_wp2_with fail
      refine (span_any s i 1 _ (by omega) (by omega) hs hA).mono ?_
      rintro e w1 ⟨rfl, hb1⟩
      rw [inS_blank]
      have hbe := Below.then hbe0 hb1 (Nat.le_refl _)
      clear hb1 hbe0
      generalize ((s.data.toList.drop i.toNat).takeWhile Lx.isBlank).length = n at *
      cases hp0 : [40, 42].isPrefixOf (s.data.toList.drop (i + (n : Int)).toNat)
      · obtain ⟨hG2, hG1⟩ := HS0.out hp0
        have HG2 : Hid _ := hG2
        have HG1 : Hid _ := hG1
        clear HS0 HS1 hG2 hG1
        go_wp2_with (go_at_call 20; refine (hasPrefixAt _ _ _ _).mono ?_; rintro e w' ⟨rfl, rfl⟩)
        rw [exitJumps_ret]
        go_ret2
        exact ⟨by rw [HG1.out, HG2.out]; rfl, hbe⟩
      · have Hst : Hid _ := gp_opened (HS1.out hp0)
        clear HS0 HS1
        obtain ⟨hi0, hi1, hd, _⟩ := Hst.out
        by_cases hend : (s.size : Int) ≤ i + (n : Int) + 2
        · obtain ⟨hG2, hG1⟩ := gp_end Hst.out hend
          have HG2 : Hid _ := hG2
          have HG1 : Hid _ := hG1
          clear Hst hG2 hG1
          go_wp2_with (go_at_call 20; refine (hasPrefixAt _ _ _ _).mono ?_; rintro e w' ⟨rfl, rfl⟩)
          go_step3
          go_wp2_with (go_at_call 20; refine (hasPrefixAt _ _ _ _).mono ?_; rintro e w' ⟨rfl, rfl⟩)
          go_step3
          go_wp2_with (go_at_call 20; refine (hasPrefixAt _ _ _ _).mono ?_; rintro e w' ⟨rfl, rfl⟩)
          rw [exitJumps_ret]
          go_ret2
          exact ⟨by rw [HG1.out, HG2.out]; rfl, hbe⟩
        · have hlt : (i + (n : Int) + 2).toNat < s.size := by omega
          cases hp : [40, 42].isPrefixOf (s.data.toList.drop (i + (n : Int) + 2).toNat)
          · cases hq : [42, 41].isPrefixOf (s.data.toList.drop (i + (n : Int) + 2).toNat)
            · have HR : Hid (GapState s a G 3 (i + (n : Int) + 2 + 1) (i + (n : Int)) ((0 : Int) + 1)) := gp_on Hst.out hlt hp hq
              clear Hst
              go_wp2_with (go_at_call 20; refine (hasPrefixAt _ _ _ _).mono ?_; rintro e w' ⟨rfl, rfl⟩)
              go_step3
              go_wp2_with (go_at_call 20; refine (hasPrefixAt _ _ _ _).mono ?_; rintro e w' ⟨rfl, rfl⟩)
              go_step3
              go_wp2_with (go_at_call 20; refine (hasPrefixAt _ _ _ _).mono ?_; rintro e w' ⟨rfl, rfl⟩)
              go_step3
              exact @Exists.intro (Int × Int × Int × List Value) _ (i + (n : Int) + 2 + 1, i + (n : Int), (0 : Int) + 1, [_, _, _, _, _, _, _, _, _, _, _, _, _, _, _, _, _, _, _, _, _, _, _, _, _, _, _, _, _, _, _, _, _, _, _, _, _, _, _, _]) ⟨rfl, ⟨hbe, HR⟩, by simp <;> omega⟩
            · have HR : Hid (GapState s a G 2 (i + (n : Int) + 2) (i + (n : Int)) ((0 : Int) + 1)) := gp_close Hst.out hlt hp hq
              clear Hst
              go_wp2_with (go_at_call 20; refine (hasPrefixAt _ _ _ _).mono ?_; rintro e w' ⟨rfl, rfl⟩)
              go_step3
              go_wp2_with (go_at_call 20; refine (hasPrefixAt _ _ _ _).mono ?_; rintro e w' ⟨rfl, rfl⟩)
              go_step3
              go_wp2_with (go_at_call 20; refine (hasPrefixAt _ _ _ _).mono ?_; rintro e w' ⟨rfl, rfl⟩)
              go_step3
              exact @Exists.intro (Int × Int × Int × List Value) _ (i + (n : Int) + 2, i + (n : Int), (0 : Int) + 1, [_, _, _, _, _, _, _, _, _, _, _, _, _, _, _, _, _, _, _, _, _, _, _, _, _, _, _, _, _, _, _, _, _, _, _, _, _, _, _, _]) ⟨rfl, ⟨hbe, HR⟩, by simp <;> omega⟩
          · have HR : Hid (GapState s a G 1 (i + (n : Int) + 2) (i + (n : Int)) ((0 : Int) + 1)) := gp_open Hst.out hlt hp
            clear Hst
            go_wp2_with (go_at_call 20; refine (hasPrefixAt _ _ _ _).mono ?_; rintro e w' ⟨rfl, rfl⟩)
            go_step3
            go_wp2_with (go_at_call 20; refine (hasPrefixAt _ _ _ _).mono ?_; rintro e w' ⟨rfl, rfl⟩)
            go_step3
            go_wp2_with (go_at_call 20; refine (hasPrefixAt _ _ _ _).mono ?_; rintro e w' ⟨rfl, rfl⟩)
            go_step3
            exact @Exists.intro (Int × Int × Int × List Value) _ (i + (n : Int) + 2, i + (n : Int), (0 : Int) + 1, [_, _, _, _, _, _, _, _, _, _, _, _, _, _, _, _, _, _, _, _, _, _, _, _, _, _, _, _, _, _, _, _, _, _, _, _, _, _, _, _]) ⟨rfl, ⟨hbe, HR⟩, by simp <;> omega⟩
    | 1, Hst0 =>
      refine ⟨_, rfl, ?_⟩
      have hbe := hbe0
      clear hbe0
      obtain ⟨hj0, hj1, hjd, _⟩ := Hst0.out
      have Hst : Hid _ := gp_opened Hst0.out
      clear Hst0
      obtain ⟨hi0, hi1, hd, _⟩ := Hst.out
      by_cases hend : (s.size : Int) ≤ i + 2
      · obtain ⟨hG2, hG1⟩ := gp_end Hst.out hend
        have HG2 : Hid _ := hG2
        have HG1 : Hid _ := hG1
        clear Hst hG2 hG1
        go_wp2
        go_step3
        go_wp2_with (go_at_call 20; refine (hasPrefixAt _ _ _ _).mono ?_; rintro e w' ⟨rfl, rfl⟩)
        rw [exitJumps_ret]
        go_ret2
        exact ⟨by rw [HG1.out, HG2.out]; rfl, hbe⟩
      · have hlt : (i + 2).toNat < s.size := by omega
        cases hp : [40, 42].isPrefixOf (s.data.toList.drop (i + 2).toNat)
        · cases hq : [42, 41].isPrefixOf (s.data.toList.drop (i + 2).toNat)
          · have HR : Hid (GapState s a G 3 (i + 2 + 1) (b) (d + 1)) := gp_on Hst.out hlt hp hq
            clear Hst
            go_wp2
            go_step3
            go_wp2_with (go_at_call 20; refine (hasPrefixAt _ _ _ _).mono ?_; rintro e w' ⟨rfl, rfl⟩)
            go_step3
            exact @Exists.intro (Int × Int × Int × List Value) _ (i + 2 + 1, b, d + 1, [_, _, _, _, _, _, _, _, _, _, _, _, _, _, _, _, _, _, _, _, _, _, _, _, _, _, _, _, _, _, _, _, _, _, _, _, _, _, _, _]) ⟨rfl, ⟨hbe, HR⟩, by simp <;> omega⟩
          · have HR : Hid (GapState s a G 2 (i + 2) (b) (d + 1)) := gp_close Hst.out hlt hp hq
            clear Hst
            go_wp2
            go_step3
            go_wp2_with (go_at_call 20; refine (hasPrefixAt _ _ _ _).mono ?_; rintro e w' ⟨rfl, rfl⟩)
            go_step3
            exact @Exists.intro (Int × Int × Int × List Value) _ (i + 2, b, d + 1, [_, _, _, _, _, _, _, _, _, _, _, _, _, _, _, _, _, _, _, _, _, _, _, _, _, _, _, _, _, _, _, _, _, _, _, _, _, _, _, _]) ⟨rfl, ⟨hbe, HR⟩, by simp <;> omega⟩
        · have HR : Hid (GapState s a G 1 (i + 2) (b) (d + 1)) := gp_open Hst.out hlt hp
          clear Hst
          go_wp2
          go_step3
          go_wp2_with (go_at_call 20; refine (hasPrefixAt _ _ _ _).mono ?_; rintro e w' ⟨rfl, rfl⟩)
          go_step3
          exact @Exists.intro (Int × Int × Int × List Value) _ (i + 2, b, d + 1, [_, _, _, _, _, _, _, _, _, _, _, _, _, _, _, _, _, _, _, _, _, _, _, _, _, _, _, _, _, _, _, _, _, _, _, _, _, _, _, _]) ⟨rfl, ⟨hbe, HR⟩, by simp <;> omega⟩
    | 2, Hst =>
      refine ⟨_, rfl, ?_⟩
      have hbe := hbe0
      clear hbe0
      obtain ⟨hj0, hj1, hjd, _⟩ := Hst.out
      by_cases hd1 : 0 < d - 1
      · have HR : Hid _ := gp_inner Hst.out hd1
        clear Hst
        go_wp2
        go_step3
        exact @Exists.intro (Int × Int × Int × List Value) _ (i + 2, b, d - 1, [_, _, _, _, _, _, _, _, _, _, _, _, _, _, _, _, _, _, _, _, _, _, _, _, _, _, _, _, _, _, _, _, _, _, _, _, _, _, _, _]) ⟨rfl, ⟨hbe, HR⟩, by simp <;> omega⟩
      · have HR : Hid _ := gp_outer Hst.out hd1
        clear Hst
        go_wp2
        go_step3
        exact @Exists.intro (Int × Int × Int × List Value) _ (i + 2, b, d - 1, [_, _, _, _, _, _, _, _, _, _, _, _, _, _, _, _, _, _, _, _, _, _, _, _, _, _, _, _, _, _, _, _, _, _, _, _, _, _, _, _]) ⟨rfl, ⟨hbe, HR⟩, by simp <;> omega⟩
    | 3, Hst =>
      refine ⟨_, rfl, ?_⟩
      have hbe := hbe0
      clear hbe0
      obtain ⟨hi0, hi1, hd, _⟩ := Hst.out
      by_cases hend : (s.size : Int) ≤ i
      · obtain ⟨hG2, hG1⟩ := gp_end Hst.out hend
        have HG2 : Hid _ := hG2
        have HG1 : Hid _ := hG1
        clear Hst hG2 hG1
        go_wp2_with (go_at_call 20; refine (hasPrefixAt _ _ _ _).mono ?_; rintro e w' ⟨rfl, rfl⟩)
        rw [exitJumps_ret]
        go_ret2
        exact ⟨by rw [HG1.out, HG2.out]; rfl, hbe⟩
      · have hlt : (i).toNat < s.size := by omega
        cases hp : [40, 42].isPrefixOf (s.data.toList.drop (i).toNat)
        · cases hq : [42, 41].isPrefixOf (s.data.toList.drop (i).toNat)
          · have HR : Hid (GapState s a G 3 (i + 1) (b) (d)) := gp_on Hst.out hlt hp hq
            clear Hst
            go_wp2_with (go_at_call 20; refine (hasPrefixAt _ _ _ _).mono ?_; rintro e w' ⟨rfl, rfl⟩)
            go_step3
            exact @Exists.intro (Int × Int × Int × List Value) _ (i + 1, b, d, [_, _, _, _, _, _, _, _, _, _, _, _, _, _, _, _, _, _, _, _, _, _, _, _, _, _, _, _, _, _, _, _, _, _, _, _, _, _, _, _]) ⟨rfl, ⟨hbe, HR⟩, by simp <;> omega⟩
          · have HR : Hid (GapState s a G 2 (i) (b) (d)) := gp_close Hst.out hlt hp hq
            clear Hst
            go_wp2_with (go_at_call 20; refine (hasPrefixAt _ _ _ _).mono ?_; rintro e w' ⟨rfl, rfl⟩)
            go_step3
            exact @Exists.intro (Int × Int × Int × List Value) _ (i, b, d, [_, _, _, _, _, _, _, _, _, _, _, _, _, _, _, _, _, _, _, _, _, _, _, _, _, _, _, _, _, _, _, _, _, _, _, _, _, _, _, _]) ⟨rfl, ⟨hbe, HR⟩, by simp <;> omega⟩
        · have HR : Hid (GapState s a G 1 (i) (b) (d)) := gp_open Hst.out hlt hp
          clear Hst
          go_wp2_with (go_at_call 20; refine (hasPrefixAt _ _ _ _).mono ?_; rintro e w' ⟨rfl, rfl⟩)
          go_step3
          exact @Exists.intro (Int × Int × Int × List Value) _ (i, b, d, [_, _, _, _, _, _, _, _, _, _, _, _, _, _, _, _, _, _, _, _, _, _, _, _, _, _, _, _, _, _, _, _, _, _, _, _, _, _, _, _]) ⟨rfl, ⟨hbe, HR⟩, by simp <;> omega⟩
    | l + 4, Hst => exact (Hst.out).elim
end Go.Proofs.YtapdhlfgakbebaaDoor
