/-
  The document's layer code: the forms of instructions; a number's bytes (Form, big, two).
-/
import Derived.Test.YtlekoldicnfeeaaDoorRows
import Derived.WalkKit
import Derived.WalkSpells
import Derived.WalkLawsBesides
import Derived.Deep.Slices
import Derived.Deep.Heap
import Derived.RegionTactic
import Derived.BigRegion
import Derived.BigFrame
import Derived.BigQuiet
import Derived.Deep.LoopGhost
import Derived.Deep.Cut
import Derived.Deep.CutBlock
import Derived.Deep.CutRange
import Derived.Deep.QuietTactic
import Derived.Deep.RegionWith
import Derived.Deep.RegionLaw
import Derived.Deep.AppendLies
import Derived.Maps.AppendAt
import Derived.Maps.OwnSet
import Derived.OwnWalk
import Derived.Lib.Strings
namespace Go.Proofs.YtlekoldicnfeeaaDoor
open Go.RowKit Go.Deep
theorem Below.then {B : Nat} {a b c : World} (h : Below B a b) (k : Below b.heap.size b c) (hB : B ≤ a.heap.size) : Below B a c := h.trans (k.mono (Nat.le_trans hB h.size))
/-- The operands of each instruction. -/
def formT : List (List UInt8) := [[105], [110], [110], [], [110], [110], [110], [110, 110], [110], [105], [110], [], [110], [110], [110, 110], [], [], [], [110], [110], [110], [], [], [110, 110], [110], []]
def form (op : Int) : List UInt8 := if op < 0 then [] else (formT[op.toNat]?).getD []
def isOp (op : Int) : Bool := decide (0 ≤ op) && decide (op ≤ 25)
theorem ops (op : Int) (h : 0 ≤ op ∧ op ≤ 25) : op = 0 ∨ op = 1 ∨ op = 2 ∨ op = 3 ∨ op = 4 ∨ op = 5 ∨ op = 6 ∨ op = 7 ∨ op = 8 ∨ op = 9 ∨ op = 10 ∨ op = 11 ∨ op = 12 ∨ op = 13 ∨ op = 14 ∨ op = 15 ∨ op = 16 ∨ op = 17 ∨ op = 18 ∨ op = 19 ∨ op = 20 ∨ op = 21 ∨ op = 22 ∨ op = 23 ∨ op = 24 ∨ op = 25 := by omega
theorem form_out {op : Int} (h : ¬ (0 ≤ op ∧ op ≤ 25)) : form op = [] ∧ isOp op = false := by
  constructor
  · unfold form
    split
    · rfl
    · rw [List.getElem?_eq_none (by simp [formT]; omega)]
      rfl
  · unfold isOp
    by_cases h1 : 0 ≤ op
    · have h2 : ¬ op ≤ 25 := by omega
      simp [h2]
    · simp [h1]
section
set_option maxHeartbeats 4000000
set_option maxRecDepth 100000
theorem form_any (op : Int) (w : World) : Calls Tryd.prog 34 #[.int .i64 op] w fun e w' => e = .returned (.tuple #[.string { data := (form op).toArray }, .bool (isOp op)]) ∧ w' = w := by
  by_cases h : 0 ≤ op ∧ op ≤ 25
  · rcases ops op h with rfl | rfl | rfl | rfl | rfl | rfl | rfl | rfl | rfl | rfl | rfl | rfl | rfl | rfl | rfl | rfl | rfl | rfl | rfl | rfl | rfl | rfl | rfl | rfl | rfl | rfl
    all_goals go_enter Tryd.func34, Tryd.ntmps34
    all_goals go_wp2
    all_goals exact bodyPost_ret (v := .tuple #[.string { data := (form _).toArray }, .bool (isOp _)]) (by simp [results, Tryd.results34, go_sem, form, formT, isOp]) rfl ⟨rfl, rfl⟩
  · obtain ⟨h1, h2⟩ := form_out h
    rw [h1, h2]
    have b0 : (op == 0) = false := by simp; omega
    have b1 : (op == 1) = false := by simp; omega
    have b2 : (op == 2) = false := by simp; omega
    have b3 : (op == 3) = false := by simp; omega
    have b4 : (op == 4) = false := by simp; omega
    have b5 : (op == 5) = false := by simp; omega
    have b6 : (op == 6) = false := by simp; omega
    have b7 : (op == 7) = false := by simp; omega
    have b8 : (op == 8) = false := by simp; omega
    have b9 : (op == 9) = false := by simp; omega
    have b10 : (op == 10) = false := by simp; omega
    have b11 : (op == 11) = false := by simp; omega
    have b12 : (op == 12) = false := by simp; omega
    have b13 : (op == 13) = false := by simp; omega
    have b14 : (op == 14) = false := by simp; omega
    have b15 : (op == 15) = false := by simp; omega
    have b16 : (op == 16) = false := by simp; omega
    have b17 : (op == 17) = false := by simp; omega
    have b18 : (op == 18) = false := by simp; omega
    have b19 : (op == 19) = false := by simp; omega
    have b20 : (op == 20) = false := by simp; omega
    have b21 : (op == 21) = false := by simp; omega
    have b22 : (op == 22) = false := by simp; omega
    have b23 : (op == 23) = false := by simp; omega
    have b24 : (op == 24) = false := by simp; omega
    have b25 : (op == 25) = false := by simp; omega
    clear h h1 h2
    go_enter Tryd.func34, Tryd.ntmps34
    go_wp2
    exact bodyPost_ret (v := .tuple #[.string { data := #[] }, .bool false]) (by simp [results, Tryd.results34, go_sem]) rfl ⟨rfl, rfl⟩
end
end Go.Proofs.YtlekoldicnfeeaaDoor
