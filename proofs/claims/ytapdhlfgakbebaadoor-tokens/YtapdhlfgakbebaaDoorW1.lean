/-
  The walks of setOf, strings.HasPrefix and span: each call returns what the plain words say; span makes one block and changes nothing old.
-/
import Derived.Test.YtapdhlfgakbebaaDoorRows
import Derived.Test.YtapdhlfgakbebaaDoorAid
namespace Go.Proofs.YtapdhlfgakbebaaDoor
open Go.RowKit

set_option maxHeartbeats 400000 in
theorem setOf_any (c : Int) (w : World) :
    Calls Tryd.prog 21 #[.int .i32 c] w fun e w' => e = .returned (.int .i64 (Lx.setOf c)) ∧ w' = w := by
  go_enter Tryd.func21, Tryd.ntmps21
  go_wp2
  all_goals go_ret
  all_goals refine ⟨ret_int ?_, rfl⟩
  all_goals (try simp only [beq_iff_eq, beq_eq_false_iff_ne] at *)
  all_goals unfold Lx.setOf
  all_goals repeat (first | rw [if_pos (by omega)] | rw [if_neg (by omega)])

set_option maxHeartbeats 400000 in
theorem hasPrefix_any (s p : ByteArray) (w : World) :
    Calls Tryd.prog 20 #[.string s, .string p] w fun e w' => e = .returned (.bool (p.data.toList.isPrefixOf s.data.toList)) ∧ w' = w := by
  go_enter Tryd.func20, Tryd.ntmps20
  go_wp2
  all_goals go_ret
  all_goals refine ⟨ret_bool ?_, rfl⟩
  · rename_i h
    rw [Lib.extract_toList, Lib.toList_data, List.drop_zero, Nat.sub_zero, Lib.size_eq p]
    exact prefix_take _ _ (by rw [← Lib.size_eq, ← Lib.size_eq]; exact h)
  · rename_i h
    exact (prefix_short _ _ (by rw [← Lib.size_eq, ← Lib.size_eq]; exact h)).symm

/-- The bytes that are in one of the sets m. -/
def Lx.inS (m : Int) (c : UInt8) : Bool := !(bits .and .i64 (Lx.setOf c.toNat) m == 0)

set_option maxHeartbeats 400000 in
theorem span_any (s : ByteArray) (a m : Int) (w : World) (h0 : 0 ≤ a) (h1 : a ≤ s.size) (hs : s.size ≤ 4000) (hA : ∀ i (h : i < s.size), (s[i]'h).toNat < 128) :
    Calls Tryd.prog 19 #[.string s, .int .i64 a, .int .i64 m] w fun e w' => e = .returned (.int .i64 (a + (((s.data.toList.drop a.toNat).takeWhile (Lx.inS m)).length : Nat))) ∧ Below w.heap.size w w' := by
  have hT : (s.extract a.toNat s.size).data.toList = s.data.toList.drop a.toNat := Lib.extract_to_end s a.toNat
  have hTs : (s.extract a.toNat s.size).size = s.size - a.toNat := by rw [Lib.size_eq, hT, List.length_drop, ← Lib.size_eq]
  have hTA : ∀ i (h : i < (s.extract a.toNat s.size).size), ((s.extract a.toNat s.size)[i]'h).toNat < 128 := by
    intro i h
    have e1 := Lib.data_getElem? _ i h
    rw [hT, List.getElem?_drop, Lib.data_getElem? s (a.toNat + i) (by omega)] at e1
    rw [← Option.some.inj e1]
    exact hA _ _
  rw [← hT]
  clear hT hA
  revert hTs hTA
  generalize hTd : s.extract a.toNat s.size = T
  intro hTs hTA
  have HTd : Hid _ := hTd
  clear hTd
  go_enter Tryd.func19, Tryd.ntmps19
  go_wp2_with fail
  rw [HTd.out]
  go_loopw [] (fun w' => ∃ pos : Nat, pos ≤ T.size ∧ w' = w.iter T pos ∧ (T.data.toList.takeWhile (Lx.inS m)).length = pos + ((T.data.toList.drop pos).takeWhile (Lx.inS m)).length) (fun w' => T.size - w'.iterPos w.heap.size)
  case atStart => exact ⟨0, Nat.zero_le _, rfl, by simp⟩
  case round =>
    obtain ⟨pos, hle, rfl, hp⟩ := hrel
    have Hp : Hid _ := hp
    clear hp
    by_cases hlt : pos < T.size
    · have hnx : ∀ ty, (Instr.next (.pointer (some ⟨w.heap.size, 0, none⟩)) true ty).run Tryd.prog (w.iter T pos) = _ := fun ty => run_next_ascii w T pos ty hlt (hTA pos hlt)
      have hdr : Hid _ := drop_at T pos hlt
      cases hin : Lx.inS m T[pos]
      · have hin' : (bits .and .i64 (Lx.setOf T[pos].toNat) m == 0) = true := by simpa [Lx.inS] using hin
        clear hin
        go_wp2_with (go_at_call 21; refine (setOf_any _ _).mono ?_; rintro e w' ⟨rfl, rfl⟩)
        go_ret
        refine ⟨ret_int ?_, (Below.refl _ _).alloc (Nat.le_refl _) _⟩
        rw [front_stop hdr.out Hp.out (by simpa [Lx.inS] using hin')]
      · have hin' : (bits .and .i64 (Lx.setOf T[pos].toNat) m == 0) = false := by simpa [Lx.inS] using hin
        clear hin
        go_wp2_with (go_at_call 21; refine (setOf_any _ _).mono ?_; rintro e w' ⟨rfl, rfl⟩)
        go_roundw
        case rel => exact ⟨pos + 1, by omega, rfl, front_step hdr.out rfl Hp.out (by simpa [Lx.inS] using hin')⟩
        case measure => simp; omega
    · have hnx : ∀ ty, (Instr.next (.pointer (some ⟨w.heap.size, 0, none⟩)) true ty).run Tryd.prog (w.iter T pos) = _ := fun ty => run_next_end w T pos ty hlt
      go_wp2
      go_ret
      refine ⟨ret_int ?_, (Below.refl _ _).alloc (Nat.le_refl _) _⟩
      rw [Hp.out, drop_end T pos (by omega)]
      simp
      omega
end Go.Proofs.YtapdhlfgakbebaaDoor
