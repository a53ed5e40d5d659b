/-
  The walks of comment and Gap of the second reader: over blanks and comments, as the plain words say; nothing changes.
-/
import Derived.Test.YtapdhlfgakbebaaDoorR2
namespace Go.Proofs.YtapdhlfgakbebaaDoor
open Go.RowKit
section
variable {s : ByteArray} {A : Int} {G : Nat × Bool} {i b d : Int}
theorem front_none {p : UInt8 → Bool} (hl : i.toNat < s.size) (h : p s[i.toNat] = false) : ((s.data.toList.drop i.toNat).takeWhile p).length = 0 := by
  rw [drop_at s _ hl]
  simp [h]
theorem gp_begin0 (h : GapState s A G 0 i b d) (hp : [40, 42].isPrefixOf (s.data.toList.drop i.toNat) = true) : GapState s A G 1 i i 0 := by
  have hl := (List.isPrefixOf_iff_prefix.1 hp).length_le
  rw [drop_len] at hl
  simp at hl
  have hlt : i.toNat < s.size := by omega
  have hc : Lx.isBlank s[i.toNat] = false := by
    rw [drop_at s _ hlt] at hp
    simp [List.isPrefixOf] at hp
    rw [← hp.1]
    decide
  have h0 := h.1
  have := gp_begin h
  rw [front_none hlt hc] at this
  simp only [Int.natCast_zero, Int.add_zero] at this
  exact this hp
theorem gp_stop0 (h : GapState s A G 0 i b d) (hlt : i.toNat < s.size) (hp : [40, 42].isPrefixOf (s.data.toList.drop i.toNat) = false) (hc : Lx.isBlank s[i.toNat] = false) : G.2 = true ∧ A + (G.1 : Int) = i := by
  have := gp_stop h
  rw [front_none hlt hc] at this
  simp only [Int.natCast_zero, Int.add_zero] at this
  exact this hp
theorem gp_blank (h : GapState s A G 0 i b d) (hlt : i.toNat < s.size) (hp : [40, 42].isPrefixOf (s.data.toList.drop i.toNat) = false) (hc : Lx.isBlank s[i.toNat] = true) : GapState s A G 0 (i + 1) b d := by
  obtain ⟨h0, h1, h2, f, bb, k, hk, hf, hG⟩ := h
  obtain ⟨f', rfl⟩ : ∃ f', f = f' + 1 := ⟨f - 1, by omega⟩
  refine ⟨by omega, by omega, h2, f', bb, k + 1, by omega, by omega, ?_⟩
  rw [show (i + 1).toNat = i.toNat + 1 from by omega]
  rw [drop_at s _ hlt] at hG hp
  have e : Lx.gapA (f' + 1) 0 bb k (s[i.toNat] :: s.data.toList.drop (i.toNat + 1)) = Lx.gapA f' 0 bb (k + 1) (s.data.toList.drop (i.toNat + 1)) := by
    show (if [40, 42].isPrefixOf (s[i.toNat] :: s.data.toList.drop (i.toNat + 1)) = true then _ else _) = _
    rw [hp]
    show (if Lx.isBlank s[i.toNat] = true then _ else _) = _
    rw [hc]
    rfl
  rw [← e]
  exact hG
theorem gp_over (h : GapState s A G 0 i b d) (hlt : (s.size : Int) ≤ i) : G.2 = true ∧ A + (G.1 : Int) = i := by
  obtain ⟨h0, h1, h2, f, bb, k, hk, hf, hG⟩ := h
  obtain ⟨f', rfl⟩ : ∃ f', f = f' + 1 := ⟨f - 1, by omega⟩
  rw [drop_end s _ (by omega)] at hG
  have e : Lx.gapA (f' + 1) 0 bb k [] = (k, true) := rfl
  rw [e] at hG
  rw [← hG]
  exact ⟨rfl, hk.symm⟩
end
set_option maxHeartbeats 1000000 in
set_option maxRecDepth 100000 in
theorem comment_any (s : ByteArray) (A a : Int) (G : Nat × Bool) (w : World) (hst : GapState s A G 1 a a 0) (hp : [40, 42].isPrefixOf (s.data.toList.drop a.toNat) = true) (hs : s.size ≤ 4000) :
    Calls Tryd.prog 28 #[.string s, .int .i64 a] w fun e w' => ∃ r : Int, e = .returned (.int .i64 r) ∧ w' = w ∧ ((r = -1 ∧ G.2 = false ∧ A + (G.1 : Int) = a) ∨ (0 ≤ r ∧ a + 2 ≤ r ∧ GapState s A G 0 r a 0)) := by
  have Hst : Hid (GapState s A G 1 a a 0) := hst
  obtain ⟨ha0, ha1, _, _⟩ := Hst.out
  have Hp : Hid _ := hp
  clear hst hp
  go_enter Tryd.func28, Tryd.ntmps28
  go_wp2_with fail
  go_loop [1, 5] (fun i d => ∃ x y : Int, i = .int .i64 x ∧ d = .int .i64 y ∧ (0 ≤ x ∧ x ≤ s.size ∧ 0 ≤ y ∧ y ≤ 4000) ∧ Hid ((y = 0 ∧ x = a) ∨ (1 ≤ y ∧ a + 2 ≤ x ∧ GapState s A G 3 x a y))) (fun i _ => s.size - (intOf i).toNat)
  case atStart => exact ⟨a, 0, rfl, rfl, by omega, Or.inl ⟨rfl, rfl⟩⟩
  case round =>
    obtain ⟨x, y, rfl, rfl, hb, Hs⟩ := hrel
    obtain ⟨hx0, hx1, hy0, hy1⟩ := hb
    rcases Hs.out with ⟨rfl, rfl⟩ | ⟨hy, hax, hg⟩
    · have hq : [42, 41].isPrefixOf (s.data.toList.drop x.toNat) = false := by
        have hp := Hp.out
        have hlt : x.toNat < s.size := by omega
        rw [drop_at s _ hlt] at hp ⊢
        simp [List.isPrefixOf] at hp ⊢
        intro e
        rw [← hp.1] at e
        exact absurd e (by decide)
      have hp := Hp.out
      have hlt : x < s.size := by omega
      have Hn : Hid (GapState s A G 3 (x + 2) x 1) := gp_opened Hst.out
      clear Hs
      go_wp2_with (go_at_call 27; refine (at_any _ _ _ _ (by omega) (by omega) hs (by decide)).mono ?_; rintro e w' ⟨rfl, rfl⟩)
      exact ⟨⟨x + 2, 1, rfl, rfl, by omega, Or.inr ⟨by omega, by omega, Hn.out⟩⟩, by simp [intOf]; omega⟩
    · have hgb : y ≤ x := by obtain ⟨_, _, h, _⟩ := hg; omega
      by_cases hlt : x < s.size
      · have hln : x.toNat < s.size := by omega
        cases hp : [40, 42].isPrefixOf (s.data.toList.drop x.toNat)
        · cases hq : [42, 41].isPrefixOf (s.data.toList.drop x.toNat)
          · have Hn : Hid (GapState s A G 3 (x + 1) a y) := gp_on hg hln hp hq
            have hy0' : (y == 0) = false := by rw [beq_eq_false_iff_ne]; omega
            clear Hs hg Hst Hp
            go_wp2_with (go_at_call 27; refine (at_any _ _ _ _ (by omega) (by omega) hs (by decide)).mono ?_; rintro e w' ⟨rfl, rfl⟩)
            exact ⟨⟨x + 1, y, rfl, rfl, by omega, Or.inr ⟨by omega, by omega, Hn.out⟩⟩, by simp [intOf]; omega⟩
          · have hcl := gp_close hg hln hp hq
            have hx2 : x + 2 ≤ s.size := by obtain ⟨_, h, _⟩ := hcl; exact h
            by_cases hd1 : 0 < y - 1
            · have Hn : Hid (GapState s A G 3 (x + 2) a (y - 1)) := gp_inner hcl hd1
              have hy0' : (y - 1 == 0) = false := by rw [beq_eq_false_iff_ne]; omega
              clear Hs hg Hst Hp hcl
              go_wp2_with (go_at_call 27; refine (at_any _ _ _ _ (by omega) (by omega) hs (by decide)).mono ?_; rintro e w' ⟨rfl, rfl⟩)
              exact ⟨⟨x + 2, y - 1, rfl, rfl, by omega, Or.inr ⟨by omega, by omega, Hn.out⟩⟩, by simp [intOf]; omega⟩
            · have ho := gp_outer hcl hd1
              have hy1' : y = 1 := by omega
              subst hy1'
              have Hn : Hid (GapState s A G 0 (x + 2) a 0) := ho
              clear Hs hg Hst Hp hcl ho
              go_wp2_with (go_at_call 27; refine (at_any _ _ _ _ (by omega) (by omega) hs (by decide)).mono ?_; rintro e w' ⟨rfl, rfl⟩)
              go_ret
              exact ⟨x + 2, rfl, rfl, Or.inr ⟨by omega, by omega, Hn.out⟩⟩
        · have hop := gp_open hg hln hp
          have hx2 : x + 2 ≤ s.size := by obtain ⟨_, h, _⟩ := hop; exact h
          have Hn : Hid (GapState s A G 3 (x + 2) a (y + 1)) := gp_opened hop
          have hy0' : (y + 1 == 0) = false := by rw [beq_eq_false_iff_ne]; omega
          clear Hs hg Hst Hp hop
          cases hq : [42, 41].isPrefixOf (s.data.toList.drop x.toNat)
          all_goals go_wp2_with (go_at_call 27; refine (at_any _ _ _ _ (by omega) (by omega) hs (by decide)).mono ?_; rintro e w' ⟨rfl, rfl⟩)
          all_goals exact ⟨⟨x + 2, y + 1, rfl, rfl, by omega, Or.inr ⟨by omega, by omega, Hn.out⟩⟩, by simp [intOf]; omega⟩
      · obtain ⟨hG2, hG1⟩ := gp_end hg (by omega)
        have HG : Hid (G.2 = false ∧ A + (G.1 : Int) = a) := ⟨hG2, hG1⟩
        clear hG2 hG1 hg Hs
        go_wp2
        go_ret
        exact ⟨-1, rfl, rfl, Or.inl ⟨rfl, HG.out⟩⟩
set_option maxHeartbeats 1000000 in
set_option maxRecDepth 100000 in
theorem gapRef_any (s : ByteArray) (a : Int) (w : World) (h0 : 0 ≤ a) (h1 : a ≤ s.size) (hs : s.size ≤ 4000) :
    Calls Tryd.prog 17 #[.string s, .int .i64 a] w fun e w' => e = .returned (.tuple #[.int .i64 (a + ((Lx.gap (s.data.toList.drop a.toNat)).1 : Nat)), .bool (Lx.gap (s.data.toList.drop a.toNat)).2]) ∧ w' = w := by
  have hfirst := gp_first s a h0 h1 0
  generalize Lx.gap (s.data.toList.drop a.toNat) = G at *
  have Hst : Hid (GapState s a G 0 a 0 0) := hfirst
  clear hfirst
  go_enter Tryd.func17, Tryd.ntmps17
  go_wp2_with fail
  go_loop [1] (fun i => ∃ x b : Int, i = .int .i64 x ∧ 0 ≤ x ∧ x ≤ s.size ∧ Hid (GapState s a G 0 x b 0)) (fun i => s.size - (intOf i).toNat)
  case atStart => exact ⟨a, 0, rfl, h0, h1, Hst⟩
  case round =>
    clear Hst
    obtain ⟨x, b, rfl, hx0, hx1, Hst⟩ := hrel
    by_cases hlt : x < s.size
    · have hln : x.toNat < s.size := by omega
      cases hp : [40, 42].isPrefixOf (s.data.toList.drop x.toNat)
      · cases hc : Lx.isBlank (s[x.toNat]'hln)
        · obtain ⟨hG2, hG1⟩ := gp_stop0 Hst.out hln hp hc
          have HG2 : Hid _ := hG2
          have HG1 : Hid _ := hG1
          clear hG2 hG1 Hst
          go_wp2_with (first | (go_at_call 27; refine (at_any _ _ _ _ (by omega) (by omega) hs (by decide)).mono ?_; rintro e w' ⟨rfl, rfl⟩) | (go_at_call 29; refine (blank_any _ _).mono ?_; rintro e w' ⟨rfl, rfl⟩))
          go_ret2
          exact ⟨by rw [HG1.out, HG2.out]; rfl, rfl⟩
        · have Hn : Hid (GapState s a G 0 (x + 1) b 0) := gp_blank Hst.out hln hp hc
          clear Hst
          go_wp2_with (first | (go_at_call 27; refine (at_any _ _ _ _ (by omega) (by omega) hs (by decide)).mono ?_; rintro e w' ⟨rfl, rfl⟩) | (go_at_call 29; refine (blank_any _ _).mono ?_; rintro e w' ⟨rfl, rfl⟩))
          exact ⟨⟨x + 1, b, rfl, by omega, by omega, Hn⟩, by simp [intOf]; omega⟩
      · have hbg := gp_begin0 Hst.out hp
        have Hbg : Hid (GapState s a G 1 x x 0) := hbg
        clear hbg Hst
        go_wp2_with (go_at_call 27; refine (at_any _ _ _ _ (by omega) (by omega) hs (by decide)).mono ?_; rintro e w' ⟨rfl, rfl⟩)
        refine (comment_any s a x G _ Hbg.out hp hs).mono ?_
        rintro e w' ⟨r, rfl, rfl, ⟨rfl, hG2, hG1⟩ | ⟨hr0, hr2, hst⟩⟩
        · have HG2 : Hid _ := hG2
          have HG1 : Hid _ := hG1
          clear hG2 hG1
          go_wp2
          go_ret2
          exact ⟨by rw [HG1.out, HG2.out]; rfl, rfl⟩
        · have Hn : Hid (GapState s a G 0 r x 0) := hst
          obtain ⟨_, hr1, _⟩ := Hn.out
          clear hst
          go_wp2
          exact ⟨⟨r, x, rfl, by omega, by omega, Hn⟩, by simp [intOf]; omega⟩
    · obtain ⟨hG2, hG1⟩ := gp_over Hst.out (by omega)
      have HG2 : Hid _ := hG2
      have HG1 : Hid _ := hG1
      clear hG2 hG1 Hst
      go_wp2
      go_ret2
      exact ⟨by rw [HG1.out, HG2.out]; rfl, rfl⟩
end Go.Proofs.YtapdhlfgakbebaaDoor
