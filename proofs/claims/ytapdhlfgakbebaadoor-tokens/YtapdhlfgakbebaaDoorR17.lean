/-
  Tokens of the second reader at texts that are read: the tokens and the fault are those of the plain words; the list is new memory.
-/
import Derived.Test.YtapdhlfgakbebaaDoorR15
import Derived.Test.YtapdhlfgakbebaaDoorR16
namespace Go.Proofs.YtapdhlfgakbebaaDoor
open Go.RowKit
theorem fit_good (s : ByteArray) (h : (Lx.unfit s.data.toList).1 = 0) : ∀ i (hi : i < s.size), Lx.good (s[i]'hi) = true := by
  unfold Lx.unfit at h
  split at h
  · simp at h
  · split at h
    · simp at h
    · intro i hi
      have hle := front_le Lx.good s.data.toList
      have hall : s.data.toList.takeWhile Lx.good = s.data.toList := (List.takeWhile_prefix Lx.good).eq_of_length (by omega)
      have hm : s[i]'hi ∈ s.data.toList.takeWhile Lx.good := by rw [hall]; exact List.mem_of_getElem? (Lib.data_getElem? s i hi)
      exact mem_front hm
set_option maxHeartbeats 4000000 in
set_option maxRecDepth 100000 in
theorem tokensRef_good (s : ByteArray) (w : World) (hu : (Lx.unfit s.data.toList).1 = 0) :
    Calls Tryd.prog 10 #[.string s] w fun e w' => ∃ v, e = .returned (.tuple #[v, .agg #[.int .i64 ((Lx.toks s.data.toList).2.1 : Nat), .int .i64 ((Lx.toks s.data.toList).2.2 : Nat)]]) ∧
      w'.ownsRow w.heap.size 31 4 v (Lx.toks s.data.toList).1.length (tokCells (Lx.toks s.data.toList).1) ∧ Below w.heap.size w w' := by
  rw [toks_of_unfit, if_pos hu]
  have hs4 : s.size ≤ 4000 := (fit_ascii s hu).1
  have hgood : Hid (∀ i (hi : i < s.size), Lx.good (s[i]'hi) = true) := fit_good s hu
  clear hu
  generalize hT : Lx.toksA (s.data.toList.length + 1) 0 s.data.toList = T
  have Hst : Hid (TokState s T [] ((0 : Int) + ((Lx.gap (s.data.toList.drop (0 : Int).toNat)).1 : Nat)) (Lx.gap (s.data.toList.drop (0 : Int).toNat)).2) := by
    have := tk_first s
    rw [hT] at this
    unfold Hid
    rw [Int.zero_add]
    exact this
  clear hT
  obtain ⟨i0, hi, hz0, hz1, hz2⟩ := info_parts info31
  have hs4' : ¬ (4000 : Int) < s.size := by omega
  go_enter Tryd.func10, Tryd.ntmps10
  go_wp2
  go_loop [4] (fun i => ∃ k : Nat, k ≤ s.size ∧ i = .int .i64 k) (fun i => s.size - (intOf i).toNat)
  case atStart => exact ⟨0, by omega, rfl⟩
  case round =>
    obtain ⟨k, hk, rfl⟩ := hrel
    by_cases hlt : k < s.size
    · have hlt' : (k : Int) < s.size := by omega
      have hin' := good_ways _ (hgood.out k hlt)
      rcases hin' with g | ⟨g, g'⟩ | ⟨g, g', g'', g3⟩
      all_goals go_wp2
      all_goals go_round
      all_goals first
        | exact ⟨k + 1, by omega, by go_num⟩
        | (simp [intOf]; omega)
    · have hlt' : ¬ (k : Int) < s.size := by omega
      clear hgood
      obtain ⟨c0, c1, f0, f1, hbw, hsz⟩ := box_fault (w := w) (Below.refl _ _)
      generalize w.alloc (Obj.cells #[Value.int IntKind.i64 0, Value.int IntKind.i64 0] 27) = w3 at *
      go_wp2
      clear hlt hlt' hk
      have HBX : Hid (∀ wx, Below w3.heap.size w3 wx → wx.cell? ⟨w.heap.size, 0, none⟩ = some (.int .i64 0) ∧ wx.cell? ⟨w.heap.size, 1, none⟩ = some (.int .i64 0) ∧ wx.frozen? ⟨w.heap.size, 0, none⟩ = false ∧ wx.frozen? ⟨w.heap.size, 1, none⟩ = false ∧ Below w.heap.size w wx ∧ w.heap.size < wx.heap.size) := by
        intro wx hbe
        refine ⟨?_, ?_, ?_, ?_, hbw.trans (hbe.mono (Nat.le_of_lt hsz)), Nat.lt_of_lt_of_le hsz hbe.size⟩
        · rw [hbe.cell (p := ⟨w.heap.size, 0, none⟩) hsz]; exact c0
        · rw [hbe.cell (p := ⟨w.heap.size, 1, none⟩) hsz]; exact c1
        · rw [hbe.frozen (p := ⟨w.heap.size, 0, none⟩) hsz]; exact f0
        · rw [hbe.frozen (p := ⟨w.heap.size, 1, none⟩) hsz]; exact f1
      clear c0 c1 f0 f1 hbw
      go_loopw [5, 6] (fun v p wr => ∃ (y : Int) (ts : List (Nat × Lx.Tok)), p = .int .i64 y ∧ 0 ≤ y ∧ y ≤ s.size ∧ Below w3.heap.size w3 wr ∧ wr.ownsRow w3.heap.size 31 4 v ts.length (tokCells ts) ∧ Hid (TokState s T ts (y + ((Lx.gap (s.data.toList.drop y.toNat)).1 : Nat)) (Lx.gap (s.data.toList.drop y.toNat)).2)) (fun _ p _ => s.size - (intOf p).toNat)
      case atStart => exact ⟨0, [], rfl, by omega, by omega, Below.refl _ _, World.ownsRow_nil _ _ _ _, Hst⟩
      case round =>
        clear Hst
        rename_i wr
        obtain ⟨y, ts, rfl, hy0, hy1, hbe, hown, Hst⟩ := hrel
        have hgr := fun w => gapRef_any s y w hy0 hy1 hs4
        have hxy : Hid (y ≤ y + ((Lx.gap (s.data.toList.drop y.toNat)).1 : Nat)) := by unfold Hid; omega
        generalize y + ((Lx.gap (s.data.toList.drop y.toNat)).1 : Nat) = x at *
        generalize (Lx.gap (s.data.toList.drop y.toNat)).2 = en at *
        have Hgr : Hid _ := hgr
        clear hgr
        obtain ⟨hx0, hx1, hts⟩ := tk_bounds Hst.out
        obtain ⟨d0, d1, g0, g1, hbw2, hszw⟩ := HBX.out wr hbe
        have hszr := hbe.size
        cases en
        · have hT3 : T = (ts, 3, x.toNat) := tk_unended Hst.out
          have HT3 : Hid _ := hT3
          clear hT3 Hst
          go_wp2_with fail
          refine (Hgr.out _).mono ?_
          rintro e wr ⟨rfl, rfl⟩
          go_wp2
          refine bodyPost_ret (v := .tuple #[u5, .agg #[.int .i64 3, .int .i64 x]]) (by simp [results, Tryd.results10, go_sem, d0, d1]) rfl ⟨u5, ?_, ?_, ?_⟩
          · rw [HT3.out]
            show Ending.returned _ = Ending.returned (.tuple #[u5, .agg #[.int .i64 3, .int .i64 ((x.toNat : Nat) : Int)]])
            rw [Int.toNat_of_nonneg hx0]
          · rw [HT3.out]
            exact owns_base (ownsRow_setCell_below (ownsRow_setCell_below hown hsz _) hsz _) (Nat.le_of_lt hsz)
          · exact (hbw2.setCell (Nat.le_refl _) _).setCell (Nat.le_refl _) _
        · by_cases hxs : (s.size : Int) ≤ x
          · have hT0 := tk_over Hst.out hxs
            have HT0 : Hid _ := hT0
            clear hT0 Hst
            have hxs' : (x == (s.size : Int)) = true := by rw [beq_iff_eq]; omega
            go_wp2_with fail
            refine (Hgr.out _).mono ?_
            rintro e wr ⟨rfl, rfl⟩
            go_wp2_with (at_builtin; refine wpList_append_own _ rfl _ _ 24 rfl w3.heap.size 31 i0 (.agg #[.int .i64 0, .int .i64 0, .string { data := #[] }, .int .i64 0]) 4 40 Tryd.underlying24 hi hz0 hz1 hz2 rfl (by decide) _ _ _ rfl (hown.alloc _) ⟨wr.heap.size, 0, none⟩ 1 1 [.int .i64 0, .int .i64 x, .string { data := #[] }, .int .i64 0] rfl rfl (cells_of_new _ _ _) (tok_oneCell _ _ _ _) (by unfold maxLen; omega) (by omega) (by have := hbe.size; simp; omega) ?_)
            intro v' w5 hown5 hg5 _
            have hbe5 := (hbe.alloc hbe.size (Obj.cells #[Value.int IntKind.i64 0, Value.int IntKind.i64 x, Value.string { data := #[] }, Value.int IntKind.i64 0] 31)).grown hg5 (by simp; omega) (fun q hq => (hown.lt q hq).1)
            clear hg5 hown hbe d0 d1 g0 g1 hbw2
            obtain ⟨d0, d1, g0, g1, hbw2, hszw2⟩ := HBX.out w5 hbe5
            go_wp2
            refine bodyPost_ret (v := .tuple #[v', .agg #[.int .i64 0, .int .i64 0]]) (by simp [results, Tryd.results10, go_sem, d0, d1]) rfl ⟨v', ?_, ?_, ?_⟩
            · rw [HT0.out]
              rfl
            · rw [HT0.out]
              have hown6 : w5.ownsRow w3.heap.size 31 4 v' (ts ++ [(x.toNat, (⟨0, [], 0⟩ : Lx.Tok))]).length (tokCells (ts ++ [(x.toNat, (⟨0, [], 0⟩ : Lx.Tok))])) := by
                rw [tokCells_snoc, List.length_append, Int.toNat_of_nonneg hx0]
                exact hown5
              exact owns_base (ownsRow_setCell_below (ownsRow_setCell_below hown6 hsz _) hsz _) (Nat.le_of_lt hsz)
            · exact (hbw2.setCell (Nat.le_refl _) _).setCell (Nat.le_refl _) _
          · have hxs' : (x == (s.size : Int)) = false := by rw [beq_eq_false_iff_ne]; omega
            have hlt : x.toNat < s.size := by omega
            have hxlt : x < s.size := by omega
            clear hxs
            go_wp2_with fail
            refine (Hgr.out _).mono ?_
            rintro e wr ⟨rfl, rfl⟩
            go_wp2_with fail
            refine (tokenRef_any s x _ hx0 hxlt hs4).mono ?_
            rintro e w4 ⟨hte, hb4⟩
            have hown4 := owns_keep hown hb4
            have hbe4 := Below.then hbe hb4 (Nat.le_refl _)
            cases htk : Lx.tok (s.data.toList.drop x.toNat) with
            | none =>
              rw [htk] at hte
              obtain ⟨x0, x1, x2, x3, rfl⟩ := hte
              have hT3 := tk_none Hst.out hlt htk
              have HT3 : Hid _ := hT3
              clear hT3 Hst htk
              obtain ⟨e0, e1, k0, k1, hbw4, hszw4⟩ := HBX.out w4 hbe4
              clear d0 d1 g0 g1 hbw2 hown hbe hb4
              go_wp2
              refine bodyPost_ret (v := .tuple #[u5, .agg #[.int .i64 3, .int .i64 x]]) (by simp [results, Tryd.results10, go_sem, e0, e1, hszw4]) rfl ⟨u5, ?_, ?_, ?_⟩
              · rw [HT3.out]
                show Ending.returned _ = Ending.returned (.tuple #[u5, .agg #[.int .i64 3, .int .i64 ((x.toNat : Nat) : Int)]])
                rw [Int.toNat_of_nonneg hx0]
              · rw [HT3.out]
                exact (owns_base (ownsRow_setCell_below (ownsRow_setCell_below hown4 hsz _) hsz _) (Nat.le_of_lt hsz)).alloc _
              · exact ((hbw4.setCell (Nat.le_refl _) _).setCell (Nat.le_refl _) _).alloc (by simp; omega) _
            | some q =>
              obtain ⟨t, k⟩ := q
              rw [htk] at hte
              simp only [TokEnd] at hte
              subst hte
              obtain ⟨hk1, hk2, hst⟩ := tk_some Hst.out hlt htk
              have Hst2 : Hid _ := hst
              clear hst Hst htk
              have hnk : ¬ x + (k : Int) < 0 := by omega
              go_wp2_with (at_builtin; refine wpList_append_own _ rfl _ _ 24 rfl w3.heap.size 31 i0 (.agg #[.int .i64 0, .int .i64 0, .string { data := #[] }, .int .i64 0]) 4 40 Tryd.underlying24 hi hz0 hz1 hz2 rfl (by decide) _ _ _ rfl ((hown4.alloc _).alloc _) ⟨w4.heap.size + 1, 0, none⟩ 1 1 [.int .i64 (t.kind : Int), .int .i64 x, .string { data := t.text.toArray }, .int .i64 (t.n : Int)] rfl rfl ?cc (tok_oneCell _ _ _ _) (by unfold maxLen; omega) (by omega) (by have := hbe4.size; simp; omega) ?_)
              case cc =>
                have h := cells_of_new (w4.alloc (Obj.cells #[Value.int IntKind.i64 (t.kind : Int), Value.int IntKind.i64 x, Value.string { data := t.text.toArray }, Value.int IntKind.i64 (t.n : Int)] 31)) [.int .i64 (t.kind : Int), .int .i64 x, .string { data := t.text.toArray }, .int .i64 (t.n : Int)] 31
                rw [show (w4.alloc (Obj.cells #[Value.int IntKind.i64 (t.kind : Int), Value.int IntKind.i64 x, Value.string { data := t.text.toArray }, Value.int IntKind.i64 (t.n : Int)] 31)).heap.size = w4.heap.size + 1 from by simp] at h
                exact h
              · intro v' w5 hown5 hg5 _
                have hbe5 := ((hbe4.alloc hbe4.size (Obj.cells #[Value.int IntKind.i64 (t.kind : Int), Value.int IntKind.i64 x, Value.string { data := t.text.toArray }, Value.int IntKind.i64 (t.n : Int)] 31)).alloc (by have := hbe4.size; simp; omega) (Obj.cells #[Value.int IntKind.i64 (t.kind : Int), Value.int IntKind.i64 x, Value.string { data := t.text.toArray }, Value.int IntKind.i64 (t.n : Int)] 31)).grown hg5 (by have := hbe4.size; simp; omega) (fun q hq => (hown4.lt q hq).1)
                have hown6 : w5.ownsRow w3.heap.size 31 4 v' (ts ++ [(x.toNat, t)]).length (tokCells (ts ++ [(x.toNat, t)])) := by
                  rw [tokCells_snoc, List.length_append, Int.toNat_of_nonneg hx0]
                  exact hown5
                clear hown5 hg5 hown4 hbe4 hown hbe hb4 d0 d1 g0 g1 hbw2
                have hxy' := hxy.out
                go_wp2
                refine ⟨⟨x + k, ts ++ [(x.toNat, t)], rfl, by omega, by omega, hbe5, hown6, Hst2⟩, ?_⟩
                simp only [intOf]
                omega
/-- Tokens of the second reader, for every text. -/
theorem tokensRef_any (s : ByteArray) (w : World) (hs : s.size ≤ maxLen) :
    Calls Tryd.prog 10 #[.string s] w fun e w' => ∃ v, e = .returned (.tuple #[v, .agg #[.int .i64 ((Lx.toks s.data.toList).2.1 : Nat), .int .i64 ((Lx.toks s.data.toList).2.2 : Nat)]]) ∧
      w'.ownsRow w.heap.size 31 4 v (Lx.toks s.data.toList).1.length (tokCells (Lx.toks s.data.toList).1) ∧ Below w.heap.size w w' := by
  by_cases hu : (Lx.unfit s.data.toList).1 = 0
  · exact tokensRef_good s w hu
  · exact tokensRef_bad s w hs hu
end Go.Proofs.YtapdhlfgakbebaaDoor
