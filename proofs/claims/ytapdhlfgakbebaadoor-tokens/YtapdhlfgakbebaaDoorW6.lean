/-
  The tables as the text lays them, and the walk of readSign: the first sign of the table that stands there, or none; nothing old changes.
-/
import Derived.Test.YtapdhlfgakbebaaDoorW5
namespace Go.Proofs.YtapdhlfgakbebaaDoor
open Go.RowKit
/-- The cells of the table of signs. -/
def signCells : Array Value := (Lx.signs.map fun l => Value.string { data := l.toArray }).toArray
theorem run_sign (k : Nat) (hk : k < 29) (w : World) : (Instr.index 59 (.agg signCells) (.int .i64 (k : Int))).run Tryd.prog w = .ok (.string { data := (Lx.signs.getD k []).toArray }) w := by
  have h1 : Lx.signs.length = 29 := rfl
  have e : signCells[k]? = some (.string { data := (Lx.signs[k]?.getD []).toArray }) := by
    simp [signCells, List.getElem?_eq_getElem (show k < Lx.signs.length by omega)]
  simp [Instr.index, run_underlying Tryd.underlying59, asIntOf, hk, go_sem]
  rw [e]
  simp
/-- The two tables hold what the text lays. -/
def escCells : Array Value := #[.int .u8 110, .int .u8 10, .int .u8 116, .int .u8 9, .int .u8 92, .int .u8 92, .int .u8 34, .int .u8 34]
structure Laid (w : World) : Prop where
  esc : ∃ t fr, w.heap[0]? = some (.cells escCells t fr)
  sign : ∃ t fr, w.heap[1]? = some (.cells signCells t fr)
  two : 2 ≤ w.heap.size
theorem Laid.keep {B : Nat} {w w' : World} (h : Laid w) (hb : Below B w w') (hB : 2 ≤ B) : Laid w' := by
  obtain ⟨⟨t0, f0, h0⟩, ⟨t1, f1, h1⟩, h2⟩ := h
  exact ⟨⟨t0, f0, by rw [hb.block 0 (by omega)]; exact h0⟩, ⟨t1, f1, by rw [hb.block 1 (by omega)]; exact h1⟩, Nat.le_trans h2 hb.size⟩
theorem find_at {α : Type} (p : α → Bool) : ∀ (l : List α) (k : Nat) (d : α), k < l.length → (∀ j, j < k → p (l.getD j d) = false) → p (l.getD k d) = true → l.find? p = some (l.getD k d)
  | [], k, d, h, _, _ => by simp at h
  | x :: r, 0, d, _, _, hp => by simp at hp; simp [hp]
  | x :: r, k + 1, d, h, hn, hp => by
    have h0 : p x = false := by simpa using hn 0 (by omega)
    rw [List.find?_cons, h0]
    have := find_at p r k d (by simpa using h) (fun j hj => by simpa using hn (j + 1) (by omega)) (by simpa using hp)
    simpa using this
theorem find_none {α : Type} (p : α → Bool) (l : List α) (d : α) (h : ∀ j, j < l.length → p (l.getD j d) = false) : l.find? p = none := by
  rw [List.find?_eq_none]
  intro x hx
  obtain ⟨j, hj, rfl⟩ := List.mem_iff_getElem.1 hx
  have := h j hj
  simp [List.getD, List.getElem?_eq_getElem hj] at this
  simp [this]
theorem signs_short (k : Nat) (hk : k < 29) : (Lx.signs.getD k []).length ≤ 2 := by
  have : ∀ x ∈ Lx.signs, x.length ≤ 2 := by decide
  have h1 : Lx.signs.length = 29 := rfl
  rw [List.getD, List.getElem?_eq_getElem (show k < Lx.signs.length by omega)]
  exact this _ (List.getElem_mem _)

set_option maxHeartbeats 1000000 in
theorem readSign_any (s : ByteArray) (a : Int) (w : World) (hL : Laid w) (h0 : 0 ≤ a) (h1 : a < s.size) (hs : s.size ≤ 4000) :
    Calls Tryd.prog 26 #[.string s, .int .i64 a] w fun e w' => e = .returned (tokVal a (Lx.tokSign (s.data.toList.drop a.toNat))) ∧ Below w.heap.size w w' := by
  obtain ⟨t1, fr1, hg1⟩ := (hL.keep ((Below.refl w.heap.size w).alloc (Nat.le_refl _) (Obj.cells #[Value.int IntKind.i64 0, Value.int IntKind.i64 0, Value.string { data := #[] }, Value.int IntKind.i64 0] 31)) hL.two).sign
  have Hg1 : Hid _ := hg1
  clear hg1
  go_enter Tryd.func26, Tryd.ntmps26
  go_wp2_with (refine wpList_load_row rfl 59 _ rfl 1 rfl t1 _ fr1 _ Hg1.out Tryd.underlying59 rfl (by kernel_rfl) ?_)
  clear Hg1 hL
  go_loop [9] (fun i => ∃ k : Nat, k ≤ 29 ∧ i = .int .i64 k ∧ Hid (∀ j, j < k → (Lx.signs.getD j []).isPrefixOf (s.data.toList.drop a.toNat) = false)) (fun i => 29 - (intOf i).toNat)
  case atStart => exact ⟨0, by omega, rfl, fun j hj => by omega⟩
  case round =>
    obtain ⟨k, hk, rfl, Hn⟩ := hrel
    by_cases hlt : k < 29
    · have hix := fun w => run_sign k hlt w
      have hsh := signs_short k hlt
      cases hp : (Lx.signs.getD k []).isPrefixOf (s.data.toList.drop a.toNat)
      · have Hn2 : Hid (∀ j, j < k + 1 → (Lx.signs.getD j []).isPrefixOf (s.data.toList.drop a.toNat) = false) := by
          intro j hj
          by_cases hjk : j = k
          · rw [hjk]; exact hp
          · exact Hn.out j (by omega)
        clear Hn
        generalize Lx.signs.getD k [] = sg at *
        go_wp2_with (go_at_call 20; refine (hasPrefixAt _ _ _ _).mono ?_; rintro e w' ⟨rfl, rfl⟩)
        go_round
        case rel => exact ⟨k + 1, by omega, by go_num, Hn2⟩
        case measure => simp [intOf]; omega
      · have hfin : Hid (tokVal a (Lx.tokSign (s.data.toList.drop a.toNat)) = .tuple #[.agg #[.int .i64 7, .int .i64 a, .string { data := (Lx.signs.getD k []).toArray }, .int .i64 0], .int .i64 (a + ((Lx.signs.getD k []).length : Nat))]) := by
          unfold Hid Lx.tokSign
          rw [find_at (fun x => x.isPrefixOf (s.data.toList.drop a.toNat)) Lx.signs k [] hlt Hn.out hp]
          rfl
        clear Hn
        generalize Lx.signs.getD k [] = sg at *
        go_wp2_with (go_at_call 20; refine (hasPrefixAt _ _ _ _).mono ?_; rintro e w' ⟨rfl, rfl⟩)
        have hln : ({ data := sg.toArray } : ByteArray).size = sg.length := by simp [ByteArray.size]
        refine (textToken_any _ _ _ _ (by rw [hln]; omega)).mono ?_
        rintro e w3 ⟨rfl, hb4⟩
        obtain ⟨c0, c1, c2, c3, f0, f1, f2, f3, hbw, hsz⟩ := box_tok hb4
        clear hb4
        go_wp2
        refine bodyPost_ret (v := .tuple #[.agg #[.int .i64 7, .int .i64 a, .string { data := sg.toArray }, .int .i64 0], .int .i64 (a + (sg.length : Nat))]) (by simp [results, Tryd.results26, go_sem, c0, c1, c2, c3]) rfl ⟨?_, (((hbw.setCell (Nat.le_refl _) _).setCell (Nat.le_refl _) _).setCell (Nat.le_refl _) _).setCell (Nat.le_refl _) _⟩
        rw [hfin.out]
    · have hfin : Hid (tokVal a (Lx.tokSign (s.data.toList.drop a.toNat)) = .tuple #[.agg #[.int .i64 0, .int .i64 0, .string { data := #[] }, .int .i64 0], .int .i64 (-1)]) := by
        unfold Hid Lx.tokSign
        rw [find_none _ _ [] (fun j hj => Hn.out j (by have h1 : Lx.signs.length = 29 := rfl; omega))]
        rfl
      go_wp2
      refine bodyPost_ret (v := .tuple #[.agg #[.int .i64 0, .int .i64 0, .string { data := #[] }, .int .i64 0], .int .i64 (-1)]) (by simp [results, Tryd.results26, go_sem]) rfl ⟨?_, ?_⟩
      · rw [hfin.out]
      · exact (Below.refl _ _).alloc (Nat.le_refl _) _
end Go.Proofs.YtapdhlfgakbebaaDoor
