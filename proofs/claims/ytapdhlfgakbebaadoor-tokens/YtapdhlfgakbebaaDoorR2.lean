/-
  The walks of words, signs and Among of the second reader.
-/
import Derived.Test.YtapdhlfgakbebaaDoorR1
namespace Go.Proofs.YtapdhlfgakbebaaDoor
open Go.RowKit
/-- The slice of texts that a literal lays. -/
def strCellsOf (ls : List (List UInt8)) : Array Value := (ls.map fun l => Value.string { data := l.toArray }).toArray
set_option maxHeartbeats 400000 in
set_option maxRecDepth 100000 in
theorem words_any (w : World) :
    Calls Tryd.prog 37 #[] w fun e w' => e = .returned (.slice (some ⟨w.heap.size, 0, none⟩) 28 28) ∧ w' = w.alloc (.cells (strCellsOf Lx.words) 9) := by
  go_enter Tryd.func37, Tryd.ntmps37
  go_wp2
  go_ret
  exact ⟨rfl, rfl⟩
set_option maxHeartbeats 400000 in
set_option maxRecDepth 100000 in
theorem signs_any (w : World) :
    Calls Tryd.prog 38 #[] w fun e w' => e = .returned (.slice (some ⟨w.heap.size, 0, none⟩) 28 28) ∧ w' = w.alloc (.cells (strCellsOf (Lx.signs.take 28)) 9) := by
  go_enter Tryd.func38, Tryd.ntmps38
  go_wp2
  go_ret
  exact ⟨rfl, rfl⟩
set_option maxHeartbeats 400000 in
theorem among_any (ls : List (List UInt8)) (g cap : Nat) (s : ByteArray) (w : World) (hl : ls.length ≤ 4000) (h : ∀ i, i < ls.length → w.cell? ⟨g, i, none⟩ = some (.string { data := (ls.getD i []).toArray })) :
    Calls Tryd.prog 36 #[.slice (some ⟨g, 0, none⟩) ls.length cap, .string s] w fun e w' => e = .returned (.bool (ls.contains s.data.toList)) ∧ w' = w := by
  have H : Hid _ := h
  clear h
  generalize hR : ls.contains s.data.toList = R
  have HR : Hid _ := hR
  clear hR
  go_enter Tryd.func36, Tryd.ntmps36
  go_wp2_with fail
  go_loop [5] (fun i => ∃ k : Nat, k ≤ ls.length ∧ i = .int .i64 k ∧ Hid (R = (ls.drop k).contains s.data.toList)) (fun i => ls.length - (intOf i).toNat)
  case atStart => exact ⟨0, by omega, rfl, by unfold Hid; rw [← HR.out]; rfl⟩
  case round =>
    obtain ⟨k, hk, rfl, Hk⟩ := hrel
    by_cases hlt : k < ls.length
    · have hc := H.out k hlt
      have hks := Hk.out
      rw [List.drop_eq_getElem_cons hlt] at hks
      have hge : ls.getD k [] = ls[k] := by simp [List.getD, List.getElem?_eq_getElem hlt]
      rw [hge] at hc
      generalize ls[k] = x at *
      clear hge
      by_cases hx : x = s.data.toList
      · have hb : (x == s.toList) = true := by rw [Lib.toList_data, beq_iff_eq]; exact hx
        have Hf : Hid (R = true) := by unfold Hid; rw [hks, hx]; simp
        clear hks hx Hk
        go_wp2
        go_ret
        exact ⟨ret_bool (by rw [Hf.out]), rfl⟩
      · have hb : (x == s.toList) = false := by rw [Lib.toList_data, beq_eq_false_iff_ne]; exact hx
        have Hf : Hid (R = (ls.drop (k + 1)).contains s.data.toList) := by unfold Hid; rw [hks]; simp [Ne.symm hx]
        clear hks hx Hk
        go_wp2
        go_round
        case rel => exact ⟨k + 1, by omega, by go_num, Hf⟩
        case measure => simp [intOf]; omega
    · have Hf : Hid (R = false) := by unfold Hid; rw [Hk.out, List.drop_of_length_le (by omega)]; rfl
      clear Hk
      go_wp2
      go_ret
      exact ⟨ret_bool (by rw [Hf.out]), rfl⟩
end Go.Proofs.YtapdhlfgakbebaaDoor
