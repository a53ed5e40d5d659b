/-
  The walk of lexer.Tokens, for every text: the tokens and the fault are those of the plain words; the list is new memory; nothing old changes.
-/
import Derived.Test.YtapdhlfgakbebaaDoorW12
import Derived.Test.YtapdhlfgakbebaaDoorTokSt
namespace Go.Proofs.YtapdhlfgakbebaaDoor
open Go.RowKit
/-- Tokens as cells. -/
def tokCells (ts : List (Nat × Lx.Tok)) : List Value := ts.flatMap fun p => [.int .i64 p.2.kind, .int .i64 p.1, .string { data := p.2.text.toArray }, .int .i64 p.2.n]
theorem toks_of_unfit (l : List UInt8) : Lx.toks l = if (Lx.unfit l).1 = 0 then Lx.toksA (l.length + 1) 0 l else ([], (Lx.unfit l).1, (Lx.unfit l).2) := by
  unfold Lx.toks Lx.unfit
  split
  · rfl
  · split <;> rfl

set_option maxHeartbeats 1000000 in
set_option maxRecDepth 100000 in
theorem tokens_bad (s : ByteArray) (w : World) (hs : s.size ≤ maxLen) (hu : (Lx.unfit s.data.toList).1 ≠ 0) :
    Calls Tryd.prog 9 #[.string s] w fun e w' => ∃ v, e = .returned (.tuple #[v, .agg #[.int .i64 ((Lx.toks s.data.toList).2.1 : Nat), .int .i64 ((Lx.toks s.data.toList).2.2 : Nat)]]) ∧
      w'.ownsRow w.heap.size 31 4 v (Lx.toks s.data.toList).1.length (tokCells (Lx.toks s.data.toList).1) ∧ Below w.heap.size w w' := by
  rw [toks_of_unfit, if_neg hu]
  have hu' : (((Lx.unfit s.data.toList).1 : Nat) : Int) ≠ 0 := by omega
  have hun := fun w => unfit_any s w hs
  have Hun : Hid _ := hun
  clear hun
  generalize (Lx.unfit s.data.toList).1 = K at *
  generalize (Lx.unfit s.data.toList).2 = A at *
  have hb : (((K : Nat) : Int) != 0) = true := by rw [bne_iff_ne]; exact hu'
  clear hu hu'
  go_enter Tryd.func9, Tryd.ntmps9
  go_wp2_with fail
  refine (Hun.out _).mono ?_
  rintro e w1 ⟨rfl, hb1⟩
  obtain ⟨c0, c1, f0, f1, hbw, hsz⟩ := box_fault hb1
  clear hb1
  go_wp2
  go_region
  all_goals go_wp2
  all_goals refine bodyPost_ret (v := .tuple #[.slice none 0 0, .agg #[.int .i64 K, .int .i64 A]]) (by simp [results, Tryd.results9, go_sem, c0, c1, hsz]) rfl ⟨_, rfl, World.ownsRow_nil _ _ _ _, ?_⟩
  all_goals exact (((hbw.setCell (Nat.le_refl _) _).setCell (Nat.le_refl _) _).alloc (by simp; omega) _).drew

theorem fit_ascii (s : ByteArray) (h : (Lx.unfit s.data.toList).1 = 0) : s.size ≤ 4000 ∧ ∀ i (hi : i < s.size), (s[i]'hi).toNat < 128 := by
  unfold Lx.unfit at h
  split at h
  · simp at h
  · rename_i hl
    split at h
    · simp at h
    · rename_i hg
      rw [← Lib.size_eq] at hl
      refine ⟨by omega, fun i hi => ?_⟩
      have hle := front_le Lx.good s.data.toList
      have hall : s.data.toList.takeWhile Lx.good = s.data.toList := (List.takeWhile_prefix Lx.good).eq_of_length (by omega)
      have hm : s[i]'hi ∈ s.data.toList.takeWhile Lx.good := by rw [hall]; exact List.mem_of_getElem? (Lib.data_getElem? s i hi)
      have := (good_iff _).1 (mem_front hm)
      omega
theorem owns_base {w : World} {base base' : Nat} {e : TypeId} {size : Nat} {v : Value} {n : Nat} {xs : List Value} (h : w.ownsRow base e size v n xs) (hb : base' ≤ base) : w.ownsRow base' e size v n xs := by
  obtain ⟨h1, h2 | ⟨g, cap, cur, h3, h4, h5⟩⟩ := h
  · exact ⟨h1, Or.inl h2⟩
  · exact ⟨h1, Or.inr ⟨g, cap, cur, h3, Nat.le_trans hb h4, h5⟩⟩
theorem cells_of_new (w : World) (cs : List Value) (t : TypeId) : ∀ j u, cs[j]? = some u → (w.alloc (.cells cs.toArray t)).cell? ((⟨w.heap.size, 0, none⟩ : Addr).add j) = some u := by
  intro j u h
  rw [Addr.add_lit, Nat.zero_add, World.cell?_alloc_mark]
  simpa using h
theorem tok_oneCell (k a : Int) (s : ByteArray) (n : Int) : ∀ u ∈ [Value.int .i64 k, .int .i64 a, .string s, .int .i64 n], u.oneCell' = true := by
  intro u hu
  simp only [List.mem_cons, List.not_mem_nil, or_false] at hu
  rcases hu with rfl | rfl | rfl | rfl <;> rfl
theorem tokCells_snoc (ts : List (Nat × Lx.Tok)) (p : Nat) (t : Lx.Tok) : tokCells (ts ++ [(p, t)]) = tokCells ts ++ [.int .i64 t.kind, .int .i64 p, .string { data := t.text.toArray }, .int .i64 t.n] := by
  simp [tokCells]
theorem info31 : (Tryd.prog.info? 31).map (fun i => (i.zero, i.size, i.bytes)) = some (some (.agg #[.int .i64 0, .int .i64 0, .string { data := #[] }, .int .i64 0]), 4, 40) := by kernel_rfl

set_option maxHeartbeats 4000000 in
set_option maxRecDepth 100000 in
theorem tokens_good (s : ByteArray) (w : World) (hL : Laid w) (hs : s.size ≤ maxLen) (hu : (Lx.unfit s.data.toList).1 = 0) :
    Calls Tryd.prog 9 #[.string s] w fun e w' => ∃ v, e = .returned (.tuple #[v, .agg #[.int .i64 ((Lx.toks s.data.toList).2.1 : Nat), .int .i64 ((Lx.toks s.data.toList).2.2 : Nat)]]) ∧
      w'.ownsRow w.heap.size 31 4 v (Lx.toks s.data.toList).1.length (tokCells (Lx.toks s.data.toList).1) ∧ Below w.heap.size w w' := by
  rw [toks_of_unfit, if_pos hu]
  obtain ⟨hs4, hA⟩ := fit_ascii s hu
  have hun := fun w => unfit_any s w hs
  have Hun : Hid _ := hun
  clear hun hs
  generalize (Lx.unfit s.data.toList).1 = K at *
  generalize (Lx.unfit s.data.toList).2 = A at *
  subst hu
  generalize hT : Lx.toksA (s.data.toList.length + 1) 0 s.data.toList = T
  have HT : Hid _ := hT
  clear hT
  obtain ⟨i0, hi, hz0, hz1, hz2⟩ := info_parts info31
  go_enter Tryd.func9, Tryd.ntmps9
  go_wp2_with fail
  refine (Hun.out _).mono ?_
  rintro e w1 ⟨rfl, hb1⟩
  clear Hun
  go_wp2_with fail
  refine (wordKinds_any _).mono ?_
  rintro e w2 ⟨rfl, hm2, hb2⟩
  go_wp2_with fail
  refine (skip_any s 0 _ (by omega) (by omega) hs4 hA).mono ?_
  rintro e w3 ⟨rfl, hb3⟩
  have hm3 : WordsAt w3 (w1.heap.size + 1) := by
    have : WordsAt w2 (w1.heap.size + 1) := by rw [← show (w1.alloc (Obj.cells #[Value.int IntKind.i64 0, Value.int IntKind.i64 A] 27)).heap.size = w1.heap.size + 1 from by simp]; exact hm2
    exact this.keep hb3 this.lt
  have hb23 : Below (w1.alloc (Obj.cells #[Value.int IntKind.i64 0, Value.int IntKind.i64 A] 27)).heap.size (w1.alloc (Obj.cells #[Value.int IntKind.i64 0, Value.int IntKind.i64 A] 27)) w3 := Below.then hb2 hb3 (Nat.le_refl _)
  have hB := Below.then (hb1.alloc hb1.size (Obj.cells #[Value.int IntKind.i64 0, Value.int IntKind.i64 A] 27)) hb23 (Nat.le_refl _)
  obtain ⟨c0, c1, f0, f1, hbw, hsz⟩ := box_fault hB
  have hL3 : Laid w3 := hL.keep hbw hL.two
  clear hm2 hb1 hb2 hb3 hb23 hB hL
  have HL3 : Hid _ := hL3
  have HM3 : Hid _ := hm3
  clear hL3 hm3
  have HBX : Hid (∀ wx, Below w3.heap.size w3 wx → wx.cell? ⟨w.heap.size, 0, none⟩ = some (.int .i64 0) ∧ wx.cell? ⟨w.heap.size, 1, none⟩ = some (.int .i64 0) ∧ wx.frozen? ⟨w.heap.size, 0, none⟩ = false ∧ wx.frozen? ⟨w.heap.size, 1, none⟩ = false ∧ Below w.heap.size w wx ∧ w.heap.size < wx.heap.size) := by
    intro wx hbe
    refine ⟨?_, ?_, ?_, ?_, hbw.trans (hbe.mono (Nat.le_of_lt hsz)), Nat.lt_of_lt_of_le hsz hbe.size⟩
    · rw [hbe.cell (p := ⟨w.heap.size, 0, none⟩) hsz]; exact c0
    · rw [hbe.cell (p := ⟨w.heap.size, 1, none⟩) hsz]; exact c1
    · rw [hbe.frozen (p := ⟨w.heap.size, 0, none⟩) hsz]; exact f0
    · rw [hbe.frozen (p := ⟨w.heap.size, 1, none⟩) hsz]; exact f1
  clear c0 c1 f0 f1 hbw
  go_wp2_with fail
  have Hst : Hid (TokState s T [] ((Lx.gap s.data.toList).1 : Nat) (Lx.gap s.data.toList).2) := by rw [← HT.out]; exact tk_first s
  clear HT
  go_loopw [5, 7, 8] (fun v p ok wr => ∃ (x : Int) (en : Bool) (ts : List (Nat × Lx.Tok)), p = .int .i64 x ∧ ok = .bool en ∧ Below w3.heap.size w3 wr ∧ wr.ownsRow w3.heap.size 31 4 v ts.length (tokCells ts) ∧ Hid (TokState s T ts x en)) (fun _ p _ _ => s.size - (intOf p).toNat)
  case atStart => exact ⟨_, _, [], rfl, rfl, Below.refl _ _, World.ownsRow_nil _ _ _ _, Hst⟩
  case round =>
    clear Hst
    rename_i wr
    obtain ⟨x, en, ts, rfl, rfl, hbe, hown, Hst⟩ := hrel
    obtain ⟨hx0, hx1, hts⟩ := tk_bounds Hst.out
    obtain ⟨d0, d1, g0, g1, hbw2, hszw⟩ := HBX.out wr hbe
    have hszr := hbe.size
    cases en
    · have hT3 : T = (ts, 3, x.toNat) := tk_unended Hst.out
      have HT3 : Hid _ := hT3
      clear hT3 Hst
      go_wp2
      refine bodyPost_ret (v := .tuple #[u5, .agg #[.int .i64 3, .int .i64 x]]) (by simp [results, Tryd.results9, go_sem, d0, d1]) rfl ⟨u5, ?_, ?_, ?_⟩
      · rw [HT3.out]
        show Ending.returned _ = Ending.returned (.tuple #[u5, .agg #[.int .i64 3, .int .i64 ((x.toNat : Nat) : Int)]])
        rw [Int.toNat_of_nonneg hx0]
      · rw [HT3.out]
        exact owns_base (ownsRow_setCell_below (ownsRow_setCell_below hown hsz _) hsz _) (Nat.le_of_lt hsz)
      · exact (hbw2.setCell (Nat.le_refl _) _).setCell (Nat.le_refl _) _
    · by_cases hxs : (s.size : Int) ≤ x
      · have hT0 := tk_over Hst.out hxs
        have HT0 : Hid _ := hT0
        clear hT0 Hst
        have hxs' : ¬ x < s.size := by omega
        go_wp2_with (at_builtin; refine wpList_append_own _ rfl _ _ 24 rfl w3.heap.size 31 i0 (.agg #[.int .i64 0, .int .i64 0, .string { data := #[] }, .int .i64 0]) 4 40 Tryd.underlying24 hi hz0 hz1 hz2 rfl (by decide) _ _ _ rfl (hown.alloc _) ⟨wr.heap.size, 0, none⟩ 1 1 [.int .i64 0, .int .i64 x, .string { data := #[] }, .int .i64 0] rfl rfl (cells_of_new _ _ _) (tok_oneCell _ _ _ _) (by unfold maxLen; omega) (by omega) (by have := hbe.size; simp; omega) ?_)
        intro v' w5 hown5 hg5 _
        have hbe5 := (hbe.alloc hbe.size (Obj.cells #[Value.int IntKind.i64 0, Value.int IntKind.i64 x, Value.string { data := #[] }, Value.int IntKind.i64 0] 31)).grown hg5 (by simp; omega) (fun q hq => (hown.lt q hq).1)
        clear hg5 hown hbe d0 d1 g0 g1 hbw2
        obtain ⟨d0, d1, g0, g1, hbw2, hszw2⟩ := HBX.out w5 hbe5
        go_wp2
        refine bodyPost_ret (v := .tuple #[v', .agg #[.int .i64 0, .int .i64 0]]) (by simp [results, Tryd.results9, go_sem, d0, d1]) rfl ⟨v', ?_, ?_, ?_⟩
        · rw [HT0.out]
          rfl
        · rw [HT0.out]
          have hown6 : w5.ownsRow w3.heap.size 31 4 v' (ts ++ [(x.toNat, (⟨0, [], 0⟩ : Lx.Tok))]).length (tokCells (ts ++ [(x.toNat, (⟨0, [], 0⟩ : Lx.Tok))])) := by
            rw [tokCells_snoc, List.length_append, Int.toNat_of_nonneg hx0]
            exact hown5
          exact owns_base (ownsRow_setCell_below (ownsRow_setCell_below hown6 hsz _) hsz _) (Nat.le_of_lt hsz)
        · exact (hbw2.setCell (Nat.le_refl _) _).setCell (Nat.le_refl _) _
      · have hxs' : x < s.size := by omega
        have hlt : x.toNat < s.size := by omega
        go_wp2_with fail
        refine (read_any s x (w1.heap.size + 1) _ (HL3.out.keep hbe HL3.out.two) (WordsAt.keep HM3.out hbe (WordsAt.lt HM3.out)) hx0 hxs' hs4 hA).mono ?_
        rintro e w4 ⟨rfl, hb4⟩
        have hown4 := owns_keep hown hb4
        have hbe4 := Below.then hbe hb4 (Nat.le_refl _)
        cases htk : Lx.tok (s.data.toList.drop x.toNat) with
        | none =>
          have hT3 := tk_none Hst.out hlt htk
          have HT3 : Hid _ := hT3
          clear hT3 Hst htk
          obtain ⟨e0, e1, k0, k1, hbw4, hszw4⟩ := HBX.out w4 hbe4
          clear d0 d1 g0 g1 hbw2 hown hbe hb4
          simp only [tokVal]
          go_wp2
          refine bodyPost_ret (v := .tuple #[u5, .agg #[.int .i64 3, .int .i64 x]]) (by simp [results, Tryd.results9, go_sem, e0, e1, hszw4]) rfl ⟨u5, ?_, ?_, ?_⟩
          · rw [HT3.out]
            show Ending.returned _ = Ending.returned (.tuple #[u5, .agg #[.int .i64 3, .int .i64 ((x.toNat : Nat) : Int)]])
            rw [Int.toNat_of_nonneg hx0]
          · rw [HT3.out]
            exact (owns_base (ownsRow_setCell_below (ownsRow_setCell_below hown4 hsz _) hsz _) (Nat.le_of_lt hsz)).alloc _
          · exact ((hbw4.setCell (Nat.le_refl _) _).setCell (Nat.le_refl _) _).alloc (by simp; omega) _
        | some q =>
          obtain ⟨t, k⟩ := q
          obtain ⟨hk1, hk2, hst⟩ := tk_some Hst.out hlt htk
          have Hst2 : Hid _ := hst
          clear hst Hst htk
          simp only [tokVal]
          go_wp2_with (at_builtin; refine wpList_append_own _ rfl _ _ 24 rfl w3.heap.size 31 i0 (.agg #[.int .i64 0, .int .i64 0, .string { data := #[] }, .int .i64 0]) 4 40 Tryd.underlying24 hi hz0 hz1 hz2 rfl (by decide) _ _ _ rfl ((hown4.alloc _).alloc _) ⟨w4.heap.size + 1, 0, none⟩ 1 1 [.int .i64 (t.kind : Int), .int .i64 x, .string { data := t.text.toArray }, .int .i64 (t.n : Int)] rfl rfl ?cc (tok_oneCell _ _ _ _) (by unfold maxLen; omega) (by omega) (by have := hbe4.size; simp; omega) ?_)
          case cc =>
            have h := cells_of_new (w4.alloc (Obj.cells #[Value.int IntKind.i64 (t.kind : Int), Value.int IntKind.i64 x, Value.string { data := t.text.toArray }, Value.int IntKind.i64 (t.n : Int)] 31)) [.int .i64 (t.kind : Int), .int .i64 x, .string { data := t.text.toArray }, .int .i64 (t.n : Int)] 31
            rw [show (w4.alloc (Obj.cells #[Value.int IntKind.i64 (t.kind : Int), Value.int IntKind.i64 x, Value.string { data := t.text.toArray }, Value.int IntKind.i64 (t.n : Int)] 31)).heap.size = w4.heap.size + 1 from by simp] at h
            exact h
          · intro v' w5 hown5 hg5 _
            have hbe5 := ((hbe4.alloc hbe4.size (Obj.cells #[Value.int IntKind.i64 (t.kind : Int), Value.int IntKind.i64 x, Value.string { data := t.text.toArray }, Value.int IntKind.i64 (t.n : Int)] 31)).alloc (by have := hbe4.size; simp; omega) (Obj.cells #[Value.int IntKind.i64 (t.kind : Int), Value.int IntKind.i64 x, Value.string { data := t.text.toArray }, Value.int IntKind.i64 (t.n : Int)] 31)).grown hg5 (by have := hbe4.size; simp; omega) (fun q hq => (hown4.lt q hq).1)
            have hown6 : w5.ownsRow w3.heap.size 31 4 v' (ts ++ [(x.toNat, t)]).length (tokCells (ts ++ [(x.toNat, t)])) := by
              rw [tokCells_snoc, List.length_append, Int.toNat_of_nonneg hx0]
              exact hown5
            clear hown5 hg5 hown4 hbe4 hown hbe hb4 d0 d1 g0 g1 hbw2
            go_wp2_with fail
            refine (skip_any s (x + k) _ (by omega) (by omega) hs4 hA).mono ?_
            rintro e w6 ⟨rfl, hb6⟩
            have hown7 := owns_keep hown6 hb6
            have hbe7 := Below.then hbe5 hb6 (Nat.le_refl _)
            clear hown6 hbe5 hb6
            obtain ⟨hn0, hn1, _⟩ := tk_bounds Hst2.out
            go_wp2
            refine ⟨⟨_, _, _, rfl, rfl, hbe7, hown7, Hst2⟩, ?_⟩
            simp only [intOf]
            omega

/-- Tokens, for every text: the tokens lie in new memory, and nothing old changes. -/
theorem tokens_any (s : ByteArray) (w : World) (hL : Laid w) (hs : s.size ≤ maxLen) :
    Calls Tryd.prog 9 #[.string s] w fun e w' => ∃ v, e = .returned (.tuple #[v, .agg #[.int .i64 ((Lx.toks s.data.toList).2.1 : Nat), .int .i64 ((Lx.toks s.data.toList).2.2 : Nat)]]) ∧
      w'.ownsRow w.heap.size 31 4 v (Lx.toks s.data.toList).1.length (tokCells (Lx.toks s.data.toList).1) ∧ Below w.heap.size w w' := by
  by_cases hu : (Lx.unfit s.data.toList).1 = 0
  · exact tokens_good s w hL hs hu
  · exact tokens_bad s w hs hu
end Go.Proofs.YtapdhlfgakbebaaDoor
