/-
  The program's reader of bytes: a text is kept as a copy of its own (strings.Clone); a text (text).
-/
import Derived.Test.YtimdjcffmajmnaaDoorD5
import Derived.Lib.BufferWrite
import Derived.Lib.UnsafeStr
import Derived.Laws.MakeOwn
namespace Go.Proofs.YtimdjcffmajmnaaDoor
open Go.RowKit Go.Deep
theorem info5s : (Tryd.prog.info? 5).map (·.size) = some 1 := by kernel_rfl
theorem cellsOf5 : Tryd.prog.cellsOf 5 = 1 := by kernel_rfl
theorem make42s (n : Nat) (hn : n ≤ 4000000) (w : World) : (Instr.makeSlice 42 (.int .i64 (n : Int)) (.int .i64 (n : Int))).run Tryd.prog w = .ok (.slice (some ⟨w.heap.size, 0, none⟩) n n) (w.alloc (.cells (madeCells #[.int .u8 0] n) 5)) := by
  obtain ⟨i, h1, h2, h3, h4⟩ := info_parts infos5
  have hr := run_make (P := Tryd.prog) w 42 5 i _ Tryd.underlying42 h1 h2 .i64 .i64 (n : Int) (n : Int) (by omega) (by omega) (by rw [h4]; omega) (by omega)
  rw [h3] at hr
  have e : ((n : Int)).toNat * 1 = n := by omega
  rw [e] at hr
  exact hr
section
set_option maxHeartbeats 8000000
set_option maxRecDepth 100000
theorem clone67 (s : ByteArray) (hs : s.size ≤ 4000000) (w : World) : Calls Tryd.prog 67 #[.string s] w fun e w' => e = .returned (.string s) ∧ Below w.heap.size w w' := by
  by_cases h0 : s.size = 0
  · obtain rfl : s = ⟨#[]⟩ := ByteArray.ext (Array.eq_empty_of_size_eq_zero h0)
    clear h0 hs
    go_enter Tryd.func67, Tryd.ntmps67
    go_wp2
    go_ret
    exact ⟨rfl, Below.refl _ _⟩
  · have hmk := make42s s.size hs w
    obtain ⟨M, hM⟩ : ∃ M, M = madeCells #[Value.int .u8 0] s.size := ⟨_, rfl⟩
    have hMs : M.size = s.size := by rw [hM]; simp [madeCells]
    rw [← hM] at hmk
    clear hM
    have hcopy := Lib.run_copy_row_string (P := Tryd.prog) (w.alloc (.cells M 5)) 42 9 3 5 w.heap.size 0 s.size s.size s M 5 Tryd.underlying42 info5s (MapKept.heap_alloc w _).1 (Nat.le_refl _) (by omega)
    have hrow : (M.toList.take 0 ++ Lib.byteCells s.data.toList ++ M.toList.drop (0 + s.size)).toArray = (Lib.byteCells s.data.toList).toArray := by
      have : M.toList.drop (0 + s.size) = [] := List.drop_eq_nil_of_le (by rw [Array.length_toList]; omega)
      rw [this]
      simp
    rw [hrow] at hcopy
    have hheld := setRow_heap _ _ M (Lib.byteCells s.data.toList).toArray 5 (0, 0) (MapKept.heap_alloc w (.cells M 5)).1
    have hsl : s.data.toList.length = s.size := by rw [Array.length_toList]; rfl
    have hstr := Lib.run_unsafeString_row (P := Tryd.prog) ((w.alloc (.cells M 5)).setRow w.heap.size (Lib.byteCells s.data.toList).toArray) 158 3 9 5 Tryd.underlying158 cellsOf5 w.heap.size (Lib.byteCells s.data.toList).toArray.size (by unfold World.shape?; rw [hheld]) s.data.toList (by intro e; rw [e] at hsl; simp at hsl; omega) (by simp [Lib.byteCells]) (by omega) (by
      intro j x hx
      rw [addr_add]
      rw [cell_of_row _ w.heap.size j _ _ _ hheld]
      simp only [Lib.byteCells, List.getElem?_toArray, List.getElem?_map, hx, Option.map_some])
    rw [hsl] at hstr
    have hB : Hid (Below w.heap.size w (((w.alloc (.cells M 5)).setRow w.heap.size (Lib.byteCells s.data.toList).toArray).freeze ⟨w.heap.size, 0, none⟩ s.size)) := by
      refine Lib.below_freeze ?_ (p := ⟨w.heap.size, 0, none⟩) (Nat.le_refl _) _
      refine ((Below.refl _ w).alloc (Nat.le_refl _) (.cells M 5)).trans ?_
      exact ⟨rfl, rfl, rfl, by simp, fun k hk => setRow_other _ _ _ _ (by omega)⟩
    clear hrow hheld hsl
    go_enter Tryd.func67, Tryd.ntmps67
    go_wp2
    go_ret
    exact ⟨rfl, hB.out⟩
theorem clone_any (s : ByteArray) (hs : s.size ≤ 4000000) (w : World) : Calls Tryd.prog 59 #[.string s] w fun e w' => e = .returned (.string s) ∧ Below w.heap.size w w' := by
  have Hc : Hid _ := clone67 s hs w
  go_enter Tryd.func59, Tryd.ntmps59
  go_wp2_with fail
  refine Calls.mono Hc.out ?_
  rintro e1 w1 ⟨rfl, hb⟩
  have Hb : Hid _ := hb
  clear Hc hb
  go_wp2
  go_ret
  exact ⟨rfl, Hb.out⟩
end
end Go.Proofs.YtimdjcffmajmnaaDoor
