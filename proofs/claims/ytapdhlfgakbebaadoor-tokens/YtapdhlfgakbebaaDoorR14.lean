/-
  Token of the second reader where a name begins with a great letter, or with an underscore.
-/
import Derived.Test.YtapdhlfgakbebaaDoorR12
namespace Go.Proofs.YtapdhlfgakbebaaDoor
open Go.RowKit
set_option maxHeartbeats 4000000 in
set_option maxRecDepth 100000 in
theorem tokenRef_under (s : ByteArray) (a : Int) (w : World) (h0 : 0 ≤ a) (h1 : a < s.size) (hs : s.size ≤ 4000) (hl : a.toNat < s.size)
    (hdig : Lx.isDigit (s[a.toNat]'hl) = false) (b34 : ((((s[a.toNat]'hl).toNat : Nat) : Int) == 34) = false) (b39 : ((((s[a.toNat]'hl).toNat : Nat) : Int) == 39) = false)
    (hc : Lx.isSmall (s[a.toNat]'hl) = false) (hg : Lx.isGreat (s[a.toNat]'hl) = false) (b95 : ((((s[a.toNat]'hl).toNat : Nat) : Int) == 95) = true) :
    Calls Tryd.prog 18 #[.string s, .int .i64 a] w fun e w' => TokEnd a e (Lx.tok (s.data.toList.drop a.toNat)) ∧ Below w.heap.size w w' := by
  have hsp : Lx.tok (s.data.toList.drop a.toNat) = if 20 < ((s.data.toList.drop a.toNat).takeWhile Lx.inName).length then none else some (⟨refKind (Lx.isGreat (s[a.toNat]'hl)) ((s.data.toList.drop a.toNat).takeWhile Lx.inName), ((s.data.toList.drop a.toNat).takeWhile Lx.inName), 0⟩, ((s.data.toList.drop a.toNat).takeWhile Lx.inName).length) := by
    rw [drop_at s _ hl]
    refine name_spec _ _ hdig (by rw [beq_eq_false_iff_ne] at b34; omega) (by rw [beq_eq_false_iff_ne] at b39; omega) ?_
    exact Or.inr (Or.inr (by rw [beq_iff_eq] at b95; omega))
  have hnm := fun w => name_any s a w h0 (by omega) hs
  have hn := front_le Lx.inName (s.data.toList.drop a.toNat)
  rw [drop_len] at hn
  have hT : ((s.data.toList.drop a.toNat).takeWhile Lx.inName) = (s.extract a.toNat (a + (((s.data.toList.drop a.toNat).takeWhile Lx.inName).length : Nat)).toNat).data.toList := by
    rw [piece]
    simp only
    rw [show (a + (((s.data.toList.drop a.toNat).takeWhile Lx.inName).length : Nat)).toNat - a.toNat = ((s.data.toList.drop a.toNat).takeWhile Lx.inName).length from by omega]
    exact List.prefix_iff_eq_take.1 (List.takeWhile_prefix _)
  generalize Lx.tok (s.data.toList.drop a.toNat) = R at *
  obtain ⟨n, hnd⟩ : ∃ n, n = ((s.data.toList.drop a.toNat).takeWhile Lx.inName).length := ⟨_, rfl⟩
  rw [← hnd] at hT hsp hn hnm
  rw [hT] at hsp
  have Hnm : Hid _ := hnm
  have hTs := Nat.le_trans (piece_le s a.toNat (a + (n : Int)).toNat) hs
  have hn2 : a + (n : Int) ≤ s.size := by omega
  clear hT hnd hnm hn
  have Hsp : Hid _ := hsp
  clear hsp
  have hway := refKind_ways (s.extract a.toNat (a + (n : Int)).toNat) (Lx.isGreat (s[a.toNat]'hl))
  go_enter Tryd.func18, Tryd.ntmps18
  go_wp2_with (first | (go_at_call 30; refine (digit_any _ _).mono ?_; rintro e w' ⟨rfl, rfl⟩) | (go_at_call 33; refine (small_any _ _).mono ?_; rintro e w' ⟨rfl, rfl⟩) | (go_at_call 34; refine (great_any _ _).mono ?_; rintro e w' ⟨rfl, rfl⟩))
  refine (Hnm.out _).mono ?_
  rintro e w1 ⟨rfl, rfl⟩
  clear b34 b39 hdig
  have Hway : Hid _ := hway
  clear hway
  go_wp2_with fail
  generalize s.extract a.toNat (a + (n : Int)).toNat = T at *
  have H : Hid (Two w ((w.alloc (Obj.cells #[Value.int IntKind.i64 0, Value.int IntKind.i64 0, Value.string { data := #[] }, Value.int IntKind.i64 0] 31)).alloc (Obj.cells #[Value.int IntKind.i64 0, Value.int IntKind.i64 a, Value.string T, Value.int IntKind.i64 0] 31)) 0 a T 0) := Two.first w 0 a T 0
  generalize ((w.alloc (Obj.cells #[Value.int IntKind.i64 0, Value.int IntKind.i64 0, Value.string { data := #[] }, Value.int IntKind.i64 0] 31)).alloc (Obj.cells #[Value.int IntKind.i64 0, Value.int IntKind.i64 a, Value.string T, Value.int IntKind.i64 0] 31)) = w0 at H ⊢
  have hcell := H.out.2.2.1.2.2.1
  have hsz0 := H.out.2.2.2.2.2
  have HK : ∀ w1, Below w0.drew.heap.size w0.drew w1 → Hid (Two w w1 0 a T 0) := fun w1 hb1 => H.out.drew.keep hb1
  have HK2 : ∀ w1, Below w0.drew.heap.size w0.drew w1 → w1.cell? ⟨w.heap.size + 1, 2, none⟩ = some (.string T) := fun w1 hb1 => (H.out.drew.keep hb1).2.2.1.2.2.1
  go_region_with (first | (go_at_call 37; refine (wordsRef_at _).mono ?_; rintro e w1 ⟨g, rfl, hb1, hC⟩; have H1 := HK _ hb1; have hcell1 := HK2 _ hb1) | (go_at_call 36; refine (amongRef_at _ _ _ hC).mono ?_; rintro e w' ⟨rfl, rfl⟩))
  all_goals clear hC hcell hsz0 HK HK2 hb1 H Hnm
  all_goals obtain ⟨⟨a0, a1, a2, a3⟩, ⟨b0, b1, b2, b3⟩, ⟨c0, c1, c2, c3⟩, ⟨d0, d1, d2, d3⟩, hbw, hsz⟩ := H1.out
  all_goals clear H1 hcell1
  · by_cases h20 : 20 < n
    · have h20' : 20 < a + (n : Int) - a := by omega
      rcases Hway.out with ⟨q1, q2⟩ | ⟨q1, q3, q2⟩ | ⟨q1, q3, q2⟩
      · have HQ : Hid _ := q2
        clear q2 Hway
        go_wp2_with (go_at_call 34; refine (great_any _ _).mono ?_; rintro e w' ⟨rfl, rfl⟩)
        refine bodyPost_ret (v := .tuple #[.agg #[.int .i64 7, .int .i64 a, .string T, .int .i64 0], .int .i64 (-1)]) (by simp [results, Tryd.results18, go_sem, *]) rfl ⟨?_, ?_⟩
        · rw [Hsp.out, if_pos h20]
          exact ⟨_, _, _, _, rfl⟩
        · exact ((((hbw.setCell (Nat.le_succ _) _).setCell (Nat.le_refl _) _).setCell (Nat.le_refl _) _).setCell (Nat.le_refl _) _).setCell (Nat.le_refl _) _
      · have HQ : Hid _ := q2
        clear q2 Hway
        go_wp2_with (go_at_call 34; refine (great_any _ _).mono ?_; rintro e w' ⟨rfl, rfl⟩)
        refine bodyPost_ret (v := .tuple #[.agg #[.int .i64 6, .int .i64 a, .string T, .int .i64 0], .int .i64 (-1)]) (by simp [results, Tryd.results18, go_sem, *]) rfl ⟨?_, ?_⟩
        · rw [Hsp.out, if_pos h20]
          exact ⟨_, _, _, _, rfl⟩
        · exact ((((hbw.setCell (Nat.le_succ _) _).setCell (Nat.le_refl _) _).setCell (Nat.le_refl _) _).setCell (Nat.le_refl _) _).setCell (Nat.le_refl _) _
      · have HQ : Hid _ := q2
        clear q2 Hway
        go_wp2_with (go_at_call 34; refine (great_any _ _).mono ?_; rintro e w' ⟨rfl, rfl⟩)
        refine bodyPost_ret (v := .tuple #[.agg #[.int .i64 3, .int .i64 a, .string T, .int .i64 0], .int .i64 (-1)]) (by simp [results, Tryd.results18, go_sem, *]) rfl ⟨?_, ?_⟩
        · rw [Hsp.out, if_pos h20]
          exact ⟨_, _, _, _, rfl⟩
        · exact ((((hbw.setCell (Nat.le_succ _) _).setCell (Nat.le_refl _) _).setCell (Nat.le_refl _) _).setCell (Nat.le_refl _) _).setCell (Nat.le_refl _) _
    · have h20' : ¬ 20 < a + (n : Int) - a := by omega
      rcases Hway.out with ⟨q1, q2⟩ | ⟨q1, q3, q2⟩ | ⟨q1, q3, q2⟩
      · have HQ : Hid _ := q2
        clear q2 Hway
        go_wp2_with (go_at_call 34; refine (great_any _ _).mono ?_; rintro e w' ⟨rfl, rfl⟩)
        refine bodyPost_ret (v := .tuple #[.agg #[.int .i64 7, .int .i64 a, .string T, .int .i64 0], .int .i64 (a + n)]) (by simp [results, Tryd.results18, go_sem, *]) rfl ⟨?_, ?_⟩
        · rw [Hsp.out, if_neg h20, HQ.out]
          rfl
        · exact ((((hbw.setCell (Nat.le_succ _) _).setCell (Nat.le_refl _) _).setCell (Nat.le_refl _) _).setCell (Nat.le_refl _) _).setCell (Nat.le_refl _) _
      · have HQ : Hid _ := q2
        clear q2 Hway
        go_wp2_with (go_at_call 34; refine (great_any _ _).mono ?_; rintro e w' ⟨rfl, rfl⟩)
        refine bodyPost_ret (v := .tuple #[.agg #[.int .i64 6, .int .i64 a, .string T, .int .i64 0], .int .i64 (a + n)]) (by simp [results, Tryd.results18, go_sem, *]) rfl ⟨?_, ?_⟩
        · rw [Hsp.out, if_neg h20, HQ.out]
          rfl
        · exact ((((hbw.setCell (Nat.le_succ _) _).setCell (Nat.le_refl _) _).setCell (Nat.le_refl _) _).setCell (Nat.le_refl _) _).setCell (Nat.le_refl _) _
      · have HQ : Hid _ := q2
        clear q2 Hway
        go_wp2_with (go_at_call 34; refine (great_any _ _).mono ?_; rintro e w' ⟨rfl, rfl⟩)
        refine bodyPost_ret (v := .tuple #[.agg #[.int .i64 3, .int .i64 a, .string T, .int .i64 0], .int .i64 (a + n)]) (by simp [results, Tryd.results18, go_sem, *]) rfl ⟨?_, ?_⟩
        · rw [Hsp.out, if_neg h20, HQ.out, hg]
          rfl
        · exact ((((hbw.setCell (Nat.le_succ _) _).setCell (Nat.le_refl _) _).setCell (Nat.le_refl _) _).setCell (Nat.le_refl _) _).setCell (Nat.le_refl _) _
  · by_cases h20 : 20 < n
    · have h20' : 20 < a + (n : Int) - a := by omega
      rcases Hway.out with ⟨q1, q2⟩ | ⟨q1, q3, q2⟩ | ⟨q1, q3, q2⟩
      · have HQ : Hid _ := q2
        clear q2 Hway
        go_wp2_with (go_at_call 34; refine (great_any _ _).mono ?_; rintro e w' ⟨rfl, rfl⟩)
        refine bodyPost_ret (v := .tuple #[.agg #[.int .i64 7, .int .i64 a, .string T, .int .i64 0], .int .i64 (-1)]) (by simp [results, Tryd.results18, go_sem, *]) rfl ⟨?_, ?_⟩
        · rw [Hsp.out, if_pos h20]
          exact ⟨_, _, _, _, rfl⟩
        · exact ((((hbw.setCell (Nat.le_succ _) _).setCell (Nat.le_refl _) _).setCell (Nat.le_refl _) _).setCell (Nat.le_refl _) _).setCell (Nat.le_refl _) _
      · have HQ : Hid _ := q2
        clear q2 Hway
        go_wp2_with (go_at_call 34; refine (great_any _ _).mono ?_; rintro e w' ⟨rfl, rfl⟩)
        refine bodyPost_ret (v := .tuple #[.agg #[.int .i64 6, .int .i64 a, .string T, .int .i64 0], .int .i64 (-1)]) (by simp [results, Tryd.results18, go_sem, *]) rfl ⟨?_, ?_⟩
        · rw [Hsp.out, if_pos h20]
          exact ⟨_, _, _, _, rfl⟩
        · exact ((((hbw.setCell (Nat.le_succ _) _).setCell (Nat.le_refl _) _).setCell (Nat.le_refl _) _).setCell (Nat.le_refl _) _).setCell (Nat.le_refl _) _
      · have HQ : Hid _ := q2
        clear q2 Hway
        go_wp2_with (go_at_call 34; refine (great_any _ _).mono ?_; rintro e w' ⟨rfl, rfl⟩)
        refine bodyPost_ret (v := .tuple #[.agg #[.int .i64 3, .int .i64 a, .string T, .int .i64 0], .int .i64 (-1)]) (by simp [results, Tryd.results18, go_sem, *]) rfl ⟨?_, ?_⟩
        · rw [Hsp.out, if_pos h20]
          exact ⟨_, _, _, _, rfl⟩
        · exact ((((hbw.setCell (Nat.le_succ _) _).setCell (Nat.le_refl _) _).setCell (Nat.le_refl _) _).setCell (Nat.le_refl _) _).setCell (Nat.le_refl _) _
    · have h20' : ¬ 20 < a + (n : Int) - a := by omega
      rcases Hway.out with ⟨q1, q2⟩ | ⟨q1, q3, q2⟩ | ⟨q1, q3, q2⟩
      · have HQ : Hid _ := q2
        clear q2 Hway
        go_wp2_with (go_at_call 34; refine (great_any _ _).mono ?_; rintro e w' ⟨rfl, rfl⟩)
        refine bodyPost_ret (v := .tuple #[.agg #[.int .i64 7, .int .i64 a, .string T, .int .i64 0], .int .i64 (a + n)]) (by simp [results, Tryd.results18, go_sem, *]) rfl ⟨?_, ?_⟩
        · rw [Hsp.out, if_neg h20, HQ.out]
          rfl
        · exact ((((hbw.setCell (Nat.le_succ _) _).setCell (Nat.le_refl _) _).setCell (Nat.le_refl _) _).setCell (Nat.le_refl _) _).setCell (Nat.le_refl _) _
      · have HQ : Hid _ := q2
        clear q2 Hway
        go_wp2_with (go_at_call 34; refine (great_any _ _).mono ?_; rintro e w' ⟨rfl, rfl⟩)
        refine bodyPost_ret (v := .tuple #[.agg #[.int .i64 6, .int .i64 a, .string T, .int .i64 0], .int .i64 (a + n)]) (by simp [results, Tryd.results18, go_sem, *]) rfl ⟨?_, ?_⟩
        · rw [Hsp.out, if_neg h20, HQ.out]
          rfl
        · exact ((((hbw.setCell (Nat.le_succ _) _).setCell (Nat.le_refl _) _).setCell (Nat.le_refl _) _).setCell (Nat.le_refl _) _).setCell (Nat.le_refl _) _
      · have HQ : Hid _ := q2
        clear q2 Hway
        go_wp2_with (go_at_call 34; refine (great_any _ _).mono ?_; rintro e w' ⟨rfl, rfl⟩)
        refine bodyPost_ret (v := .tuple #[.agg #[.int .i64 3, .int .i64 a, .string T, .int .i64 0], .int .i64 (a + n)]) (by simp [results, Tryd.results18, go_sem, *]) rfl ⟨?_, ?_⟩
        · rw [Hsp.out, if_neg h20, HQ.out, hg]
          rfl
        · exact ((((hbw.setCell (Nat.le_succ _) _).setCell (Nat.le_refl _) _).setCell (Nat.le_refl _) _).setCell (Nat.le_refl _) _).setCell (Nat.le_refl _) _
end Go.Proofs.YtapdhlfgakbebaaDoor
