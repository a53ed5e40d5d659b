/-
  Tokens of the second reader at texts that are too long or hold a byte that they may not hold.
-/
import Derived.Test.YtapdhlfgakbebaaDoorR10
namespace Go.Proofs.YtapdhlfgakbebaaDoor
open Go.RowKit
theorem not_good_ways (c : UInt8) (h : Lx.good c = false) : ((((c.toNat : Nat) : Int) != 9) = true ∧ (((c.toNat : Nat) : Int) != 10) = true) ∧ ((c.toNat : Int) < 32 ∨ (¬ (c.toNat : Int) < 32 ∧ 126 < (c.toNat : Int))) := by
  obtain ⟨g9, g10, g32⟩ := good_not _ h
  refine ⟨⟨by rw [bne_iff_ne]; omega, by rw [bne_iff_ne]; omega⟩, ?_⟩
  omega
theorem good_ways (c : UInt8) (h : Lx.good c = true) : (((c.toNat : Nat) : Int) != 9) = false ∨ ((((c.toNat : Nat) : Int) != 9) = true ∧ (((c.toNat : Nat) : Int) != 10) = false) ∨ ((((c.toNat : Nat) : Int) != 9) = true ∧ (((c.toNat : Nat) : Int) != 10) = true ∧ ¬ (c.toNat : Int) < 32 ∧ ¬ 126 < (c.toNat : Int)) := by
  by_cases h9 : c.toNat = 9
  · left; simp [h9]
  · have e9 : (((c.toNat : Nat) : Int) != 9) = true := by rw [bne_iff_ne]; omega
    by_cases h10 : c.toNat = 10
    · right; left; exact ⟨e9, by simp [h10]⟩
    · right; right
      refine ⟨e9, by rw [bne_iff_ne]; omega, ?_⟩
      have := (good_iff _).1 h
      omega
set_option maxHeartbeats 1000000 in
set_option maxRecDepth 100000 in
theorem tokensRef_bad (s : ByteArray) (w : World) (hs : s.size ≤ maxLen) (hu : (Lx.unfit s.data.toList).1 ≠ 0) :
    Calls Tryd.prog 10 #[.string s] w fun e w' => ∃ v, e = .returned (.tuple #[v, .agg #[.int .i64 ((Lx.toks s.data.toList).2.1 : Nat), .int .i64 ((Lx.toks s.data.toList).2.2 : Nat)]]) ∧
      w'.ownsRow w.heap.size 31 4 v (Lx.toks s.data.toList).1.length (tokCells (Lx.toks s.data.toList).1) ∧ Below w.heap.size w w' := by
  rw [toks_of_unfit, if_neg hu]
  unfold maxLen at hs
  by_cases hl : 4000 < s.size
  · rw [unfit_long _ (by rw [← Lib.size_eq]; exact hl)]
    clear hu
    have hl' : (4000 : Int) < s.size := by omega
    clear hl
    go_enter Tryd.func10, Tryd.ntmps10
    go_wp2
    refine bodyPost_ret (v := .tuple #[.slice none 0 0, .agg #[.int .i64 1, .int .i64 0]]) (by simp [results, Tryd.results10, go_sem]) rfl ⟨_, rfl, World.ownsRow_nil _ _ _ _, ?_⟩
    exact ((Below.refl _ _).alloc (Nat.le_refl _) _)
  · have hl' : ¬ (4000 : Int) < s.size := by omega
    have hl4 : ¬ 4000 < s.data.toList.length := by rw [← Lib.size_eq]; exact hl
    clear hl
    have hst : (s.data.toList.takeWhile Lx.good).length = 0 + ((s.data.toList.drop 0).takeWhile Lx.good).length := by simp
    have HU : Hid _ := hu
    have Hst : Hid _ := hst
    have HL4 : Hid _ := hl4
    clear hst hu hl4
    go_enter Tryd.func10, Tryd.ntmps10
    go_wp2
    go_loop [4] (fun i => ∃ k : Nat, k ≤ s.size ∧ i = .int .i64 k ∧ Hid ((s.data.toList.takeWhile Lx.good).length = k + ((s.data.toList.drop k).takeWhile Lx.good).length)) (fun i => s.size - (intOf i).toNat)
    case atStart => exact ⟨0, by omega, rfl, Hst⟩
    case round =>
      clear Hst
      obtain ⟨k, hk, rfl, Hk⟩ := hrel
      by_cases hlt : k < s.size
      · have hdr : Hid _ := drop_at s k hlt
        have hlt' : (k : Int) < s.size := by omega
        cases hin : Lx.good (s[k]'hlt)
        · have hG : Hid _ := unfit_bad _ k HL4.out (front_stop hdr.out Hk.out hin) (by rw [← Lib.size_eq]; exact hlt)
          obtain ⟨⟨g9, g10⟩, g32⟩ := not_good_ways _ hin
          clear hin Hk HU hdr
          rcases g32 with g32 | ⟨g32, g126⟩
          all_goals go_wp2
          all_goals refine bodyPost_ret (v := .tuple #[.slice none 0 0, .agg #[.int .i64 2, .int .i64 k]]) (by simp [results, Tryd.results10, go_sem]) rfl ⟨.slice none 0 0, ?_, World.ownsRow_nil _ _ _ _, ?_⟩
          all_goals first
            | (rw [hG.out]; rfl)
            | exact ((Below.refl _ _).alloc (Nat.le_refl _) _)
        · have hG : Hid ((s.data.toList.takeWhile Lx.good).length = k + 1 + ((s.data.toList.drop (k + 1)).takeWhile Lx.good).length) := front_step hdr.out rfl Hk.out hin
          have hin' := good_ways _ hin
          clear hin Hk hdr
          rcases hin' with g | ⟨g, g'⟩ | ⟨g, g', g'', g3⟩
          all_goals go_wp2
          all_goals go_round
          all_goals first
            | exact ⟨k + 1, by omega, by go_num, hG⟩
            | (simp [intOf]; omega)
      · exact absurd (unfit_none _ HL4.out (by rw [Hk.out, drop_end s k (by omega), ← Lib.size_eq]; simp; omega)) (fun e => HU.out (by rw [e]))
end Go.Proofs.YtapdhlfgakbebaaDoor
