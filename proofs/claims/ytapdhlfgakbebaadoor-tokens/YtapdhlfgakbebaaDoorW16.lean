/-
  The walk of the law Quotes, for every string of at most 1048576 bytes: it answers true; nothing old changes.
-/
import Derived.Test.YtapdhlfgakbebaaDoorW15
import Derived.Test.YtapdhlfgakbebaaDoorQPlain
namespace Go.Proofs.YtapdhlfgakbebaaDoor
open Go.RowKit
theorem ba_size (l : List UInt8) : ({ data := l.toArray } : ByteArray).size = l.length := by simp [ByteArray.size]
set_option maxHeartbeats 2000000 in
set_option maxRecDepth 100000 in
theorem quotes_walk (s : ByteArray) (w : World) (hL : Laid w) (hs : s.size ≤ 1048576) :
    Calls Tryd.prog 4 #[.string s] w fun e w' => e = .returned (.bool true) ∧ Below w.heap.size w w' := by
  have hql : (Lx.quote s.data.toList).length ≤ 4194306 := by
    rw [quote_len]
    have := quoted_le s.data.toList
    rw [← Lib.size_eq] at this
    omega
  have hqs := ba_size (Lx.quote s.data.toList)
  have hneq : (({ data := (Lx.quote s.data.toList).toArray } : ByteArray).toList != ({ data := (Lx.quote s.data.toList).toArray } : ByteArray).toList) = false := by simp
  go_enter Tryd.func4, Tryd.ntmps4
  go_wp2_with fail
  refine (quote_any s _ hL hs).mono ?_
  rintro e w1 ⟨rfl, hb1⟩
  have hL1 := hL.keep hb1 hL.two
  go_wp2_with fail
  refine (refQuote_any s _ hs).mono ?_
  rintro e w2 ⟨rfl, hb2⟩
  have hL2 := hL1.keep hb2 hL1.two
  go_wp2_with fail
  refine (quote_any _ _ hL2 (by decide)).mono ?_
  rintro e w3 ⟨rfl, hb3⟩
  have hL3 := hL2.keep hb3 hL2.two
  rw [show (Lx.quote ({ data := #[97, 10] } : ByteArray).data.toList) = [34, 97, 92, 110, 34] from by decide]
  have hbe3 := Below.then (Below.then hb1 hb2 (Nat.le_refl _)) hb3 (Nat.le_refl _)
  clear hL hL1 hL2 hb1 hb2 hb3 hneq
  go_wp2_with fail
  refine (tokens_any _ _ hL3 (by rw [hqs]; unfold maxLen; omega)).mono ?_
  rintro e w4 ⟨v, rfl, hown, hb4⟩
  have hbe4 := Below.then hbe3 hb4 (Nat.le_refl _)
  have hsz4 : w.heap.size ≤ w4.heap.size := hbe4.size
  clear hbe3 hb4 hL3
  have hdl : ({ data := (Lx.quote s.data.toList).toArray } : ByteArray).data.toList = Lx.quote s.data.toList := rfl
  rw [hdl] at hown ⊢
  clear hdl
  by_cases h4000 : 4000 < (Lx.quote s.data.toList).length
  · rw [toks_quote_long _ h4000] at hown ⊢
    have h4000' : (4000 : Int) < (((Lx.quote s.data.toList).length : Nat) : Int) := by omega
    clear hown
    generalize Lx.quote s.data.toList = q at *
    go_wp2
    go_ret
    exact ⟨rfl, hbe4.alloc (by omega) _⟩
  · have h4000' : ¬ (4000 : Int) < (((Lx.quote s.data.toList).length : Nat) : Int) := by omega
    rw [toks_quote _ h4000] at hown ⊢
    by_cases h200 : s.data.toList.length ≤ 200
    · have h200' : ¬ (200 : Int) < ((s.size : Nat) : Int) := by rw [Lib.size_eq]; omega
      rw [if_pos h200] at hown ⊢
      generalize hq : Lx.quote s.data.toList = q at *
      clear hq
      have hown2 := hown
      obtain ⟨_, ⟨_, hn⟩ | ⟨g, cap, cur, rfl, hbg, _⟩⟩ := hown
      · exact absurd hn (by simp)
      · have d0 : w4.cell? ⟨g, 0, none⟩ = some (.int .i64 2) := hown2.cellAt 0 (by simp)
        have d2 : w4.cell? ⟨g, 2, none⟩ = some (.string s) := by
          have := hown2.cellAt 2 (by simp)
          rw [this]
          show some (Value.string { data := s.data.toList.toArray }) = _
          rw [Lib.mk_data]
        have d5 : w4.cell? ⟨g, 5, none⟩ = some (.int .i64 ((q.length : Nat) : Int)) := hown2.cellAt 5 (by simp)
        have hgl : g < w4.heap.size := (hown2.lt g rfl).2
        have hse : (s.toList == s.toList) = true := by simp
        clear hown2
        go_wp2
        go_ret
        exact ⟨rfl, hbe4.alloc (by omega) _⟩
    · have h200' : (200 : Int) < ((s.size : Nat) : Int) := by rw [Lib.size_eq]; omega
      rw [if_neg h200] at hown ⊢
      clear hown
      generalize Lx.quote s.data.toList = q at *
      go_wp2
      go_ret
      exact ⟨rfl, hbe4.alloc (by omega) _⟩
end Go.Proofs.YtapdhlfgakbebaaDoor
