/-
  The walk of readString: a string and what it says, or none, as the plain words say; nothing old changes.
-/
import Derived.Test.YtapdhlfgakbebaaDoorStr
import Derived.Test.YtapdhlfgakbebaaDoorJumps
namespace Go.Proofs.YtapdhlfgakbebaaDoor
open Go.RowKit
theorem owns_keep {w w' : World} {base : Nat} {e : TypeId} {size : Nat} {v : Value} {n : Nat} {xs : List Value} (h : w.ownsRow base e size v n xs) (hb : Below w.heap.size w w') : w'.ownsRow base e size v n xs :=
  h.kept (row := none) ⟨hb.os, hb.tape, hb.output, hb.size, fun k hk _ => hb.block k hk⟩ (by cases hv : v.ownBlock with | none => exact Or.inl rfl | some g => exact Or.inr (by simp))
theorem str_convert {w : World} {base : Nat} {v : Value} {acc : List UInt8} (h : w.ownsRow base 5 1 v acc.length (Lib.byteCells acc)) :
    ∃ (n cap : Nat) (g : Option Addr), v = .slice g n cap ∧ n = acc.length ∧ ∀ dst, Tryd.prog.underlying dst = some .string → (convert 34 dst (.slice g n cap)).run Tryd.prog w = .ok (.string { data := acc.toArray }) w := by
  have hh := h
  obtain ⟨hl, h | ⟨g, cap, cur, rfl, hbg, hheap, hcap, hmax, hsz, htake⟩⟩ := h
  · obtain ⟨rfl, hn⟩ := h
    refine ⟨0, 0, none, rfl, hn.symm, fun dst hd => ?_⟩
    have : acc = [] := List.eq_nil_of_length_eq_zero hn
    subst this
    exact run_convert_bytes_nil w 34 5 Tryd.underlying34 Tryd.underlying5 0 0 dst hd
  · refine ⟨acc.length, cap, some ⟨g, 0, none⟩, rfl, rfl, fun dst hd => ?_⟩
    refine run_convert_bytes_back w 34 dst 5 ⟨g, 0, none⟩ cap acc Tryd.underlying34 Tryd.underlying5 hd (fun j hj => ?_)
    have := hh.cells (g := g) rfl j (.int .u8 (acc[j].toNat : Int)) (by simp [Lib.byteCells, List.getElem?_eq_getElem hj])
    exact this
set_option maxHeartbeats 4000000 in
set_option maxRecDepth 100000 in
theorem readString_any (s : ByteArray) (a : Int) (w : World) (hL : Laid w) (h0 : 0 ≤ a) (h1 : a < s.size) (hs : s.size ≤ 4000) (hA : ∀ i (h : i < s.size), (s[i]'h).toNat < 128) :
    Calls Tryd.prog 23 #[.string s, .int .i64 a] w fun e w' => e = .returned (tokVal a (Lx.tokStr (s.data.toList.drop a.toNat))) ∧ Below w.heap.size w w' := by
  have hfirst := st_first s a h0 h1
  rw [tokStr_eq]
  generalize Lx.strA (s.data.toList.drop a.toNat).length [] 1 ((s.data.toList.drop a.toNat).drop 1) = R at *
  have Hf : Hid (StrState s a R 1 (a + 1) 1 []) := hfirst
  clear hfirst
  obtain ⟨i0, hi, hz0, hz1, hz2⟩ := info_parts info5
  go_enter Tryd.func23, Tryd.ntmps23
  go_wp2
  refine wp_scope_at (X := Int × Nat × List UInt8 × Value × List Value) (fun (i, k, acc, v, u) => { tmps := #[.string s, .int .i64 a, undef, undef, .pointer (some ⟨w.heap.size, 0, none⟩), slotOf u 0, v, slotOf u 1, .int .i64 i, slotOf u 2, slotOf u 3, slotOf u 4, slotOf u 5, slotOf u 6, slotOf u 7, slotOf u 8, slotOf u 9, slotOf u 10, slotOf u 11, slotOf u 12, slotOf u 13, slotOf u 14, slotOf u 15, slotOf u 16, slotOf u 17, slotOf u 18, slotOf u 19, slotOf u 20, slotOf u 21, slotOf u 22, slotOf u 23, slotOf u 24, slotOf u 25, slotOf u 26, slotOf u 27, slotOf u 28, slotOf u 29, slotOf u 30, slotOf u 31, slotOf u 32, slotOf u 33, slotOf u 34, slotOf u 35, slotOf u 36, slotOf u 37, slotOf u 38, slotOf u 39, slotOf u 40, slotOf u 41, slotOf u 42, slotOf u 43, slotOf u 44, slotOf u 45, slotOf u 46, slotOf u 47, slotOf u 48, slotOf u 49, slotOf u 50, slotOf u 51, slotOf u 52, slotOf u 53, slotOf u 54], defers := [] })
    (fun l (i, k, acc, v, u) w' => Below (w.alloc (Obj.cells #[Value.int IntKind.i64 0, Value.int IntKind.i64 0, Value.string { data := #[] }, Value.int IntKind.i64 0] 31)).heap.size (w.alloc (Obj.cells #[Value.int IntKind.i64 0, Value.int IntKind.i64 0, Value.string { data := #[] }, Value.int IntKind.i64 0] 31)) w' ∧ w'.ownsRow (w.heap.size + 1) 5 1 v acc.length (Lib.byteCells acc) ∧ Hid (StrState s a R l i k acc))
    (fun l (i, k, acc, v, u) => if l = 0 then 0 else if l = 2 then 1 else 4 * (s.size - i.toNat) + (if l = 1 then 3 else 2)) ?_ ?_
  · go_wp2
    go_step3
    obtain ⟨wr, hwr⟩ : ∃ wr, wr = (w.alloc (Obj.cells #[Value.int IntKind.i64 0, Value.int IntKind.i64 0, Value.string { data := #[] }, Value.int IntKind.i64 0] 31)) := ⟨_, rfl⟩
    have hbe : Below (w.alloc (Obj.cells #[Value.int IntKind.i64 0, Value.int IntKind.i64 0, Value.string { data := #[] }, Value.int IntKind.i64 0] 31)).heap.size (w.alloc (Obj.cells #[Value.int IntKind.i64 0, Value.int IntKind.i64 0, Value.string { data := #[] }, Value.int IntKind.i64 0] 31)) wr := by rw [hwr]; exact Below.refl _ _
    rw [← hwr]
    clear hwr
    obtain ⟨i, hia⟩ : ∃ i, i = a + 1 := ⟨_, rfl⟩
    obtain ⟨k, hka⟩ : ∃ k : Nat, k = 1 := ⟨_, rfl⟩
    obtain ⟨acc, hacc⟩ : ∃ acc : List UInt8, acc = [] := ⟨_, rfl⟩
    obtain ⟨v, hv⟩ : ∃ v : Value, v = .slice none 0 0 := ⟨_, rfl⟩
    have Hst : Hid (StrState s a R 1 i k acc) := by rw [hia, hka, hacc]; exact Hf
    have hown : wr.ownsRow (w.heap.size + 1) 5 1 v acc.length (Lib.byteCells acc) := by rw [hv, hacc]; exact World.ownsRow_nil _ _ _ _
    rw [← hia, ← hv]
    clear hia hka hacc hv
    obtain ⟨hi0, hi1, hik, hak, _⟩ := Hst.out
    have hk4 : k ≤ 4000 := by omega
    clear hik
    by_cases hend : (s.size : Int) ≤ i
    · have HR : Hid (StrState s a R 0 i k acc) := st_end Hst.out hend
      clear Hst
      go_wp2
      go_step3
      exact @Exists.intro (Int × Nat × List UInt8 × Value × List Value) _ (i, k, acc, v, [_, _, _, _, _, _, _, _, _, _, _, _, _, _, _, _, _, _, _, _, _, _, _, _, _, _, _, _, _, _, _, _, _, _, _, _, _, _, _, _, _, _, _, _, _, _, _, _, _, _, _, _, _, _, _]) ⟨rfl, ⟨hbe, hown, HR⟩⟩
    · have hlt : i.toNat < s.size := by omega
      by_cases hc32 : (s[i.toNat]'hlt).toNat < 32
      · have HR : Hid (StrState s a R 0 i k acc) := st_ctl Hst.out hlt hc32
        have hc32' : (((s[i.toNat]'hlt).toNat : Nat) : Int) < 32 := by omega
        clear Hst
        go_wp2
        go_step3
        exact @Exists.intro (Int × Nat × List UInt8 × Value × List Value) _ (i, k, acc, v, [_, _, _, _, _, _, _, _, _, _, _, _, _, _, _, _, _, _, _, _, _, _, _, _, _, _, _, _, _, _, _, _, _, _, _, _, _, _, _, _, _, _, _, _, _, _, _, _, _, _, _, _, _, _, _]) ⟨rfl, ⟨hbe, hown, HR⟩⟩
      · have hc32' : ¬ (((s[i.toNat]'hlt).toNat : Nat) : Int) < 32 := by omega
        by_cases hc34 : (s[i.toNat]'hlt).toNat = 34
        · have HR : Hid (StrState s a R 2 i k acc) := st_quote Hst.out hlt hc34
          have hc34' : ((((s[i.toNat]'hlt).toNat : Nat) : Int) == 34) = true := by rw [beq_iff_eq]; omega
          clear Hst hc34
          go_wp2
          go_step3
          exact @Exists.intro (Int × Nat × List UInt8 × Value × List Value) _ (i, k, acc, v, [_, _, _, _, _, _, _, _, _, _, _, _, _, _, _, _, _, _, _, _, _, _, _, _, _, _, _, _, _, _, _, _, _, _, _, _, _, _, _, _, _, _, _, _, _, _, _, _, _, _, _, _, _, _, _]) ⟨rfl, ⟨hbe, hown, HR⟩⟩
        · have hc34' : ((((s[i.toNat]'hlt).toNat : Nat) : Int) == 34) = false := by rw [beq_eq_false_iff_ne]; omega
          by_cases hc92 : (s[i.toNat]'hlt).toNat = 92
          · have HR : Hid (StrState s a R 3 i k acc) := st_back Hst.out hlt hc92
            have hc92' : ((((s[i.toNat]'hlt).toNat : Nat) : Int) == 92) = true := by rw [beq_iff_eq]; omega
            clear Hst hc92
            go_wp2
            go_step3
            exact @Exists.intro (Int × Nat × List UInt8 × Value × List Value) _ (i, k, acc, v, [_, _, _, _, _, _, _, _, _, _, _, _, _, _, _, _, _, _, _, _, _, _, _, _, _, _, _, _, _, _, _, _, _, _, _, _, _, _, _, _, _, _, _, _, _, _, _, _, _, _, _, _, _, _, _]) ⟨rfl, ⟨hbe, hown, HR⟩⟩
          · have hc92' : ((((s[i.toNat]'hlt).toNat : Nat) : Int) == 92) = false := by rw [beq_eq_false_iff_ne]; omega
            have HR : Hid (StrState s a R 1 (i + 1) (k + 1) (acc ++ [s[i.toNat]'hlt])) := st_char Hst.out hlt hc32 hc34 hc92
            clear Hst hc32 hc34 hc92
            go_wp2_with (at_builtin; refine wpList_append_own _ rfl _ _ 34 rfl (w.heap.size + 1) 5 i0 (.int .u8 0) 1 1 Tryd.underlying34 hi hz0 hz1 hz2 rfl (by decide) _ _ _ rfl (hown.alloc _) ⟨wr.heap.size, 0, none⟩ 1 1 [.int .u8 ((s[i.toNat]'hlt).toNat : Int)] rfl rfl (cell_one_new _ _ _) (ints_oneCell .u8 [((s[i.toNat]'hlt).toNat : Int)]) (by unfold maxLen; omega) (by omega) (by have := hbe.size; simp at this ⊢; omega) ?_)
            intro v' w1 hown' hgrow _
            have hbe2 := (hbe.alloc hbe.size (Obj.cells #[Value.int IntKind.u8 ((s[i.toNat]'hlt).toNat : Int)] 5)).grown hgrow (by have := hbe.size; simp at this ⊢; omega) (fun q hq => by have := (hown.lt q hq).1; simp; omega)
            have hown2 : w1.ownsRow (w.heap.size + 1) 5 1 v' (acc ++ [s[i.toNat]'hlt]).length (Lib.byteCells (acc ++ [s[i.toNat]'hlt])) := by rw [Lib.byteCells_append, List.length_append]; exact hown'
            clear hown' hgrow hown hbe
            go_wp2
            go_step3
            exact @Exists.intro (Int × Nat × List UInt8 × Value × List Value) _ (i + 1, k + 1, acc ++ [s[i.toNat]'hlt], v', [_, _, _, _, _, _, _, _, _, _, _, _, _, _, _, _, _, _, _, _, _, _, _, _, _, _, _, _, _, _, _, _, _, _, _, _, _, _, _, _, _, _, _, _, _, _, _, _, _, _, _, _, _, _, _]) ⟨rfl, ⟨hbe2, hown2, HR⟩⟩
  · rintro l ⟨i, k, acc, v, u⟩ wr ⟨hbe, hown, Hst⟩
    simp only
    match l, Hst with
    | 0, Hst =>
      refine ⟨_, rfl, ?_⟩
      obtain ⟨c0, c1, c2, c3, f0, f1, f2, f3, hbw, hsz⟩ := box_tok hbe
      go_wp2
      rw [exitJumps_ret]
      refine bodyPost_ret (v := .tuple #[.agg #[.int .i64 0, .int .i64 0, .string { data := #[] }, .int .i64 0], .int .i64 (-1)]) (by simp [results, Tryd.results23, go_sem, c0, c1, c2, c3]) rfl ⟨?_, (((hbw.setCell (Nat.le_refl _) _).setCell (Nat.le_refl _) _).setCell (Nat.le_refl _) _).setCell (Nat.le_refl _) _⟩
      rw [show R = none from Hst.out]
      rfl
    | 1, Hst =>
      refine ⟨_, rfl, ?_⟩
      obtain ⟨hi0, hi1, hik, hak, _⟩ := Hst.out
      have hk4 : k ≤ 4000 := by omega
      clear hik
      by_cases hend : (s.size : Int) ≤ i
      · have HR : Hid (StrState s a R 0 i k acc) := st_end Hst.out hend
        clear Hst
        go_wp2
        go_step3
        exact @Exists.intro (Int × Nat × List UInt8 × Value × List Value) _ (i, k, acc, v, [_, _, _, _, _, _, _, _, _, _, _, _, _, _, _, _, _, _, _, _, _, _, _, _, _, _, _, _, _, _, _, _, _, _, _, _, _, _, _, _, _, _, _, _, _, _, _, _, _, _, _, _, _, _, _]) ⟨rfl, ⟨hbe, hown, HR⟩, by simp <;> omega⟩
      · have hlt : i.toNat < s.size := by omega
        by_cases hc32 : (s[i.toNat]'hlt).toNat < 32
        · have HR : Hid (StrState s a R 0 i k acc) := st_ctl Hst.out hlt hc32
          have hc32' : (((s[i.toNat]'hlt).toNat : Nat) : Int) < 32 := by omega
          clear Hst
          go_wp2
          go_step3
          exact @Exists.intro (Int × Nat × List UInt8 × Value × List Value) _ (i, k, acc, v, [_, _, _, _, _, _, _, _, _, _, _, _, _, _, _, _, _, _, _, _, _, _, _, _, _, _, _, _, _, _, _, _, _, _, _, _, _, _, _, _, _, _, _, _, _, _, _, _, _, _, _, _, _, _, _]) ⟨rfl, ⟨hbe, hown, HR⟩, by simp <;> omega⟩
        · have hc32' : ¬ (((s[i.toNat]'hlt).toNat : Nat) : Int) < 32 := by omega
          by_cases hc34 : (s[i.toNat]'hlt).toNat = 34
          · have HR : Hid (StrState s a R 2 i k acc) := st_quote Hst.out hlt hc34
            have hc34' : ((((s[i.toNat]'hlt).toNat : Nat) : Int) == 34) = true := by rw [beq_iff_eq]; omega
            clear Hst hc34
            go_wp2
            go_step3
            exact @Exists.intro (Int × Nat × List UInt8 × Value × List Value) _ (i, k, acc, v, [_, _, _, _, _, _, _, _, _, _, _, _, _, _, _, _, _, _, _, _, _, _, _, _, _, _, _, _, _, _, _, _, _, _, _, _, _, _, _, _, _, _, _, _, _, _, _, _, _, _, _, _, _, _, _]) ⟨rfl, ⟨hbe, hown, HR⟩, by simp <;> omega⟩
          · have hc34' : ((((s[i.toNat]'hlt).toNat : Nat) : Int) == 34) = false := by rw [beq_eq_false_iff_ne]; omega
            by_cases hc92 : (s[i.toNat]'hlt).toNat = 92
            · have HR : Hid (StrState s a R 3 i k acc) := st_back Hst.out hlt hc92
              have hc92' : ((((s[i.toNat]'hlt).toNat : Nat) : Int) == 92) = true := by rw [beq_iff_eq]; omega
              clear Hst hc92
              go_wp2
              go_step3
              exact @Exists.intro (Int × Nat × List UInt8 × Value × List Value) _ (i, k, acc, v, [_, _, _, _, _, _, _, _, _, _, _, _, _, _, _, _, _, _, _, _, _, _, _, _, _, _, _, _, _, _, _, _, _, _, _, _, _, _, _, _, _, _, _, _, _, _, _, _, _, _, _, _, _, _, _]) ⟨rfl, ⟨hbe, hown, HR⟩, by simp <;> omega⟩
            · have hc92' : ((((s[i.toNat]'hlt).toNat : Nat) : Int) == 92) = false := by rw [beq_eq_false_iff_ne]; omega
              have HR : Hid (StrState s a R 1 (i + 1) (k + 1) (acc ++ [s[i.toNat]'hlt])) := st_char Hst.out hlt hc32 hc34 hc92
              clear Hst hc32 hc34 hc92
              go_wp2_with (at_builtin; refine wpList_append_own _ rfl _ _ 34 rfl (w.heap.size + 1) 5 i0 (.int .u8 0) 1 1 Tryd.underlying34 hi hz0 hz1 hz2 rfl (by decide) _ _ _ rfl (hown.alloc _) ⟨wr.heap.size, 0, none⟩ 1 1 [.int .u8 ((s[i.toNat]'hlt).toNat : Int)] rfl rfl (cell_one_new _ _ _) (ints_oneCell .u8 [((s[i.toNat]'hlt).toNat : Int)]) (by unfold maxLen; omega) (by omega) (by have := hbe.size; simp at this ⊢; omega) ?_)
              intro v' w1 hown' hgrow _
              have hbe2 := (hbe.alloc hbe.size (Obj.cells #[Value.int IntKind.u8 ((s[i.toNat]'hlt).toNat : Int)] 5)).grown hgrow (by have := hbe.size; simp at this ⊢; omega) (fun q hq => by have := (hown.lt q hq).1; simp; omega)
              have hown2 : w1.ownsRow (w.heap.size + 1) 5 1 v' (acc ++ [s[i.toNat]'hlt]).length (Lib.byteCells (acc ++ [s[i.toNat]'hlt])) := by rw [Lib.byteCells_append, List.length_append]; exact hown'
              clear hown' hgrow hown hbe
              go_wp2
              go_step3
              exact @Exists.intro (Int × Nat × List UInt8 × Value × List Value) _ (i + 1, k + 1, acc ++ [s[i.toNat]'hlt], v', [_, _, _, _, _, _, _, _, _, _, _, _, _, _, _, _, _, _, _, _, _, _, _, _, _, _, _, _, _, _, _, _, _, _, _, _, _, _, _, _, _, _, _, _, _, _, _, _, _, _, _, _, _, _, _]) ⟨rfl, ⟨hbe2, hown2, HR⟩, by simp <;> omega⟩
    | 2, Hst =>
      refine ⟨_, rfl, ?_⟩
      obtain ⟨hi0, hi1, hik, hak, hRR⟩ := Hst.out
      have hk4 : k ≤ 4000 := by omega
      have Hik : Hid _ := hik
      have HR : Hid _ := hRR
      clear hik hRR Hst
      obtain ⟨c0, c1, c2, c3, f0, f1, f2, f3, hbw, hsz⟩ := box_tok hbe
      obtain ⟨n, cap, g, rfl, hcv⟩ : ∃ (n cap : Nat) (g : Option Addr), v = .slice g n cap ∧ n = acc.length ∧ ∀ dst, Tryd.prog.underlying dst = some .string → (convert 34 dst (.slice g n cap)).run Tryd.prog wr = .ok (.string { data := acc.toArray }) wr := str_convert hown
      obtain ⟨hn, hcv⟩ := hcv
      have hcv9 := hcv 9 Tryd.underlying9
      clear hcv hown
      by_cases h200 : acc.length ≤ 200
      · have h200' : (n : Int) ≤ 200 := by omega
        clear hn
        go_wp2
        rw [exitJumps_ret]
        refine bodyPost_ret (v := .tuple #[.agg #[.int .i64 2, .int .i64 a, .string { data := acc.toArray }, .int .i64 0], .int .i64 (i + 1)]) (by simp [results, Tryd.results23, go_sem, c0, c1, c2, c3]) rfl ⟨?_, (((hbw.setCell (Nat.le_refl _) _).setCell (Nat.le_refl _) _).setCell (Nat.le_refl _) _).setCell (Nat.le_refl _) _⟩
        rw [HR.out, if_pos h200, Hik.out]
        show Ending.returned _ = Ending.returned (.tuple #[.agg #[.int .i64 2, .int .i64 a, .string { data := acc.toArray }, .int .i64 0], .int .i64 (a + ((k + 1 : Nat) : Int))])
        rw [show a + ((k + 1 : Nat) : Int) = a + (k : Int) + 1 from by omega]
      · have h200' : ¬ (n : Int) ≤ 200 := by omega
        clear hn
        go_wp2
        go_step3
        go_wp2
        rw [exitJumps_ret]
        refine bodyPost_ret (v := .tuple #[.agg #[.int .i64 0, .int .i64 0, .string { data := #[] }, .int .i64 0], .int .i64 (-1)]) (by simp [results, Tryd.results23, go_sem, c0, c1, c2, c3]) rfl ⟨?_, (((hbw.setCell (Nat.le_refl _) _).setCell (Nat.le_refl _) _).setCell (Nat.le_refl _) _).setCell (Nat.le_refl _) _⟩
        rw [HR.out, if_neg h200]
        rfl
    | 3, Hst =>
      refine ⟨_, rfl, ?_⟩
      obtain ⟨hi0, hi1, hik, hak, _⟩ := Hst.out
      have hk4 : k ≤ 4000 := by omega
      clear hik
      have hLr : Laid wr := (hL.keep ((Below.refl _ w).alloc (Nat.le_refl _) (Obj.cells #[Value.int IntKind.i64 0, Value.int IntKind.i64 0, Value.string { data := #[] }, Value.int IntKind.i64 0] 31)) hL.two).keep hbe (Nat.le_trans hL.two (by simp))
      go_wp2_with fail
      refine (readEscape_any s (i + 1) _ hLr (by omega) (by omega) hs hA).mono ?_
      rintro e w1 ⟨he, hb1⟩
      have hbe1 := Below.then hbe hb1 (Nat.le_refl _)
      have hown1 := owns_keep hown hb1
      clear hown hbe hb1 hLr
      cases hes : Lx.esc (s.data.toList.drop (i + 1).toNat) with
      | none =>
        rw [hes] at he
        obtain ⟨x, y, rfl⟩ := he
        have HR : Hid (StrState s a R 0 y k acc) := st_esc_none Hst.out hes
        clear Hst hes
        go_wp2
        go_step3
        exact @Exists.intro (Int × Nat × List UInt8 × Value × List Value) _ (y, k, acc, v, [_, _, _, _, _, _, _, _, _, _, _, _, _, _, _, _, _, _, _, _, _, _, _, _, _, _, _, _, _, _, _, _, _, _, _, _, _, _, _, _, _, _, _, _, _, _, _, _, _, _, _, _, _, _, _]) ⟨rfl, ⟨hbe1, hown1, HR⟩, by simp <;> omega⟩
      | some p =>
        obtain ⟨b, j⟩ := p
        rw [hes] at he
        have he' : e = .returned (.tuple #[.int .u8 (b.toNat : Int), .int .i64 (i + 1 + j), .bool true]) := he
        subst he'
        have HR : Hid (StrState s a R 1 (i + 1 + j) (k + 1 + j) (acc ++ [b])) := st_esc_some Hst.out hes
        have hjl := esc_len _ _ _ hes
        have hown := hown1
        have hbe := hbe1
        clear Hst hes he hown1 hbe1
        go_wp2_with (at_builtin; refine wpList_append_own _ rfl _ _ 34 rfl (w.heap.size + 1) 5 i0 (.int .u8 0) 1 1 Tryd.underlying34 hi hz0 hz1 hz2 rfl (by decide) _ _ _ rfl (hown.alloc _) ⟨w1.heap.size, 0, none⟩ 1 1 [.int .u8 ((b).toNat : Int)] rfl rfl (cell_one_new _ _ _) (ints_oneCell .u8 [((b).toNat : Int)]) (by unfold maxLen; omega) (by omega) (by have := hbe.size; simp at this ⊢; omega) ?_)
        intro v' w2 hown' hgrow _
        have hbe2 := (hbe.alloc hbe.size (Obj.cells #[Value.int IntKind.u8 ((b).toNat : Int)] 5)).grown hgrow (by have := hbe.size; simp at this ⊢; omega) (fun q hq => by have := (hown.lt q hq).1; simp; omega)
        have hown2 : w2.ownsRow (w.heap.size + 1) 5 1 v' (acc ++ [b]).length (Lib.byteCells (acc ++ [b])) := by rw [Lib.byteCells_append, List.length_append]; exact hown'
        clear hown' hgrow hown hbe
        go_wp2
        go_step3
        exact @Exists.intro (Int × Nat × List UInt8 × Value × List Value) _ (i + 1 + j, k + 1 + j, acc ++ [b], v', [_, _, _, _, _, _, _, _, _, _, _, _, _, _, _, _, _, _, _, _, _, _, _, _, _, _, _, _, _, _, _, _, _, _, _, _, _, _, _, _, _, _, _, _, _, _, _, _, _, _, _, _, _, _, _]) ⟨rfl, ⟨hbe2, hown2, HR⟩, by simp <;> omega⟩
    | l + 4, Hst => exact (Hst.out).elim
end Go.Proofs.YtapdhlfgakbebaaDoor
