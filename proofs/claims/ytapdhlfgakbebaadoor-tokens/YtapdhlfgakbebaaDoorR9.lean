import Derived.Test.YtapdhlfgakbebaaDoorR6
import Derived.BigRegion
namespace Go.Proofs.YtapdhlfgakbebaaDoor
open Go.RowKit
theorem signsRef_at (w : World) : Calls Tryd.prog 38 #[] w fun e w' => ∃ g, e = .returned (.slice (some ⟨g, 0, none⟩) 28 28) ∧ Below w.heap.size w w' ∧ (∀ j, j < 28 → w'.cell? ⟨g, j, none⟩ = some (.string { data := (Lx.signs.getD j []).toArray })) ∧ g = w.heap.size := by
  refine (signs_any w).mono ?_
  rintro e w' ⟨rfl, rfl⟩
  refine ⟨_, rfl, (Below.refl _ _).alloc (Nat.le_refl _) _, ?_, rfl⟩
  intro j hj
  rw [World.cell?_alloc_mark]
  match j, hj with
  | 0, _ => rfl
  | 1, _ => rfl
  | 2, _ => rfl
  | 3, _ => rfl
  | 4, _ => rfl
  | 5, _ => rfl
  | 6, _ => rfl
  | 7, _ => rfl
  | 8, _ => rfl
  | 9, _ => rfl
  | 10, _ => rfl
  | 11, _ => rfl
  | 12, _ => rfl
  | 13, _ => rfl
  | 14, _ => rfl
  | 15, _ => rfl
  | 16, _ => rfl
  | 17, _ => rfl
  | 18, _ => rfl
  | 19, _ => rfl
  | 20, _ => rfl
  | 21, _ => rfl
  | 22, _ => rfl
  | 23, _ => rfl
  | 24, _ => rfl
  | 25, _ => rfl
  | 26, _ => rfl
  | 27, _ => rfl
  | n + 28, h => exact absurd h (by omega)
theorem sign_hit (l : List UInt8) (k : Nat) (hk : k < 29) (h : ∀ j, j < k → (Lx.signs.getD j []).isPrefixOf l = false) (hh : (Lx.signs.getD k []).isPrefixOf l = true) : Lx.tokSign l = some (⟨7, Lx.signs.getD k [], 0⟩, (Lx.signs.getD k []).length) := by
  unfold Lx.tokSign
  rw [find_at (fun s => s.isPrefixOf l) Lx.signs k [] hk h hh]
theorem sign_miss (l : List UInt8) (h : ∀ j, j < 28 → (Lx.signs.getD j []).isPrefixOf l = false) (hu : [95].isPrefixOf l = false) : Lx.tokSign l = none := by
  unfold Lx.tokSign
  rw [find_none (fun s => s.isPrefixOf l) Lx.signs [] ?_]
  intro j hj
  by_cases h28 : j < 28
  · exact h j h28
  · have e : j = 28 := by
      have : Lx.signs.length = 29 := rfl
      omega
    subst e
    exact hu
set_option maxHeartbeats 1000000 in
set_option maxRecDepth 100000 in
theorem tokenRef_sign (s : ByteArray) (a : Int) (w : World) (h0 : 0 ≤ a) (h1 : a < s.size) (hs : s.size ≤ 4000) (hl : a.toNat < s.size)
    (hdig : Lx.isDigit (s[a.toNat]'hl) = false) (hsm : Lx.isSmall (s[a.toNat]'hl) = false) (hgr : Lx.isGreat (s[a.toNat]'hl) = false)
    (b34 : ((((s[a.toNat]'hl).toNat : Nat) : Int) == 34) = false) (b39 : ((((s[a.toNat]'hl).toNat : Nat) : Int) == 39) = false) (b95 : ((((s[a.toNat]'hl).toNat : Nat) : Int) == 95) = false) :
    Calls Tryd.prog 18 #[.string s, .int .i64 a] w fun e w' => TokEnd a e (Lx.tokSign (s.data.toList.drop a.toNat)) ∧ Below w.heap.size w w' := by
  have Hhit : Hid _ := sign_hit (s.data.toList.drop a.toNat)
  have hu : [95].isPrefixOf (s.data.toList.drop a.toNat) = false := by
    rw [drop_at s _ hl]
    simp [List.isPrefixOf]
    intro e
    rw [beq_eq_false_iff_ne] at b95
    apply b95
    rw [← e]
    rfl
  have Hmiss : Hid _ := fun h => sign_miss (s.data.toList.drop a.toNat) h hu
  clear hu
  generalize Lx.tokSign (s.data.toList.drop a.toNat) = R at *
  go_enter Tryd.func18, Tryd.ntmps18
  go_wp2_with (first | (go_at_call 30; refine (digit_any _ _).mono ?_; rintro e w' ⟨rfl, rfl⟩) | (go_at_call 33; refine (small_any _ _).mono ?_; rintro e w' ⟨rfl, rfl⟩) | (go_at_call 34; refine (great_any _ _).mono ?_; rintro e w' ⟨rfl, rfl⟩))
  refine (signsRef_at _).mono ?_
  rintro e w1 ⟨g, rfl, hb1, hC, hg⟩
  have h2 := (Two.first w 0 a { data := #[] } 0).keep hb1
  have HC : Hid _ := hC
  have hgB : w.heap.size + 1 < g := by rw [hg]; simp
  clear hb1 hC hg
  obtain ⟨⟨a0, a1, a2, a3⟩, ⟨b0, b1, b2, b3⟩, ⟨c0, c1, c2, c3⟩, ⟨d0, d1, d2, d3⟩, hbw, hsz⟩ := h2
  clear b34 b39 b95 hdig hsm hgr
  go_wp2_with fail
  go_loop [14] (fun i => ∃ k : Nat, k ≤ 28 ∧ i = .int .i64 k ∧ Hid (∀ j, j < k → (Lx.signs.getD j []).isPrefixOf (s.data.toList.drop a.toNat) = false)) (fun i => 28 - (intOf i).toNat)
  case atStart => exact ⟨0, by omega, rfl, fun j hj => absurd hj (by omega)⟩
  case round =>
    obtain ⟨k, hk, rfl, Hk⟩ := hrel
    by_cases hlt : k < 28
    · have hc := HC.out k hlt
      have hsz2 := signs_short k (by omega)
      have Hx : Hid (Lx.signs.getD k [] = Lx.signs.getD k []) := rfl
      obtain ⟨x, hx⟩ : ∃ x, x = Lx.signs.getD k [] := ⟨_, rfl⟩
      rw [← hx] at hc hsz2
      have Hxe : Hid _ := hx
      clear Hx
      have hps : ({ data := x.toArray } : ByteArray).size = x.length := by simp [ByteArray.size]
      cases hp : x.isPrefixOf (s.data.toList.drop a.toNat)
      · have Hn : Hid (∀ j, j < k + 1 → (Lx.signs.getD j []).isPrefixOf (s.data.toList.drop a.toNat) = false) := by
          intro j hj
          by_cases e : j = k
          · subst e
            rw [← Hxe.out]
            exact hp
          · exact Hk.out j (by omega)
        clear Hk hx Hhit Hmiss
        go_wp2_with (go_at_call 27; refine (at_any _ _ _ _ (by omega) (by omega) hs (by rw [hps]; omega)).mono ?_; rintro e w' ⟨rfl, rfl⟩)
        go_round
        case rel => exact ⟨k + 1, by omega, by go_num, Hn⟩
        case measure => simp [intOf]; omega
      · have HR : Hid (R = some (⟨7, x, 0⟩, x.length)) := by
          have := Hhit.out k (by omega) Hk.out (by rw [← Hxe.out]; exact hp)
          rw [← Hxe.out] at this
          exact this
        clear Hk hx Hhit Hmiss
        go_wp2_with (go_at_call 27; refine (at_any _ _ _ _ (by omega) (by omega) hs (by rw [hps]; omega)).mono ?_; rintro e w' ⟨rfl, rfl⟩)
        go_region
        all_goals go_wp2
        all_goals refine bodyPost_ret (v := .tuple #[.agg #[.int .i64 7, .int .i64 a, .string { data := x.toArray }, .int .i64 0], .int .i64 (a + x.length)]) (by simp [results, Tryd.results18, go_sem, *]) rfl ⟨?_, ?_⟩
        · rw [HR.out]
          rfl
        · exact ((((((hbw.setCell (Nat.le_succ _) _).setCell (Nat.le_succ _) _).setCell (Nat.le_refl _) _).setCell (Nat.le_refl _) _).setCell (Nat.le_refl _) _).setCell (Nat.le_refl _) _).drew
    · have HR : Hid (R = none) := Hmiss.out (fun j hj => Hk.out j (by omega))
      clear Hk Hhit Hmiss
      go_wp2
      refine bodyPost_ret (v := .tuple #[.agg #[.int .i64 0, .int .i64 a, .string { data := #[] }, .int .i64 0], .int .i64 (-1)]) (by simp [results, Tryd.results18, go_sem, *]) rfl ⟨?_, ?_⟩
      · rw [HR.out]
        exact ⟨_, _, _, _, rfl⟩
      · exact (((hbw.setCell (Nat.le_refl _) _).setCell (Nat.le_refl _) _).setCell (Nat.le_refl _) _).setCell (Nat.le_refl _) _
end Go.Proofs.YtapdhlfgakbebaaDoor
