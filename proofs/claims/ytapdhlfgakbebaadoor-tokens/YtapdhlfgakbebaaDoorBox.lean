/-
  The block in which a call keeps its result (a token, a fault): what it holds while callees lay blocks of their own above it.
-/
import Derived.Test.YtapdhlfgakbebaaDoorAid
namespace Go.Proofs.YtapdhlfgakbebaaDoor
open Go.RowKit
theorem Below.then {B : Nat} {a b c : World} (h : Below B a b) (k : Below b.heap.size b c) (hB : B ≤ a.heap.size) : Below B a c := h.trans (k.mono (Nat.le_trans hB h.size))
theorem box_tok {w w1 : World} (hb : Below (w.alloc (Obj.cells #[Value.int IntKind.i64 0, Value.int IntKind.i64 0, Value.string { data := #[] }, Value.int IntKind.i64 0] 31)).heap.size (w.alloc (Obj.cells #[Value.int IntKind.i64 0, Value.int IntKind.i64 0, Value.string { data := #[] }, Value.int IntKind.i64 0] 31)) w1) :
    w1.cell? ⟨w.heap.size, 0, none⟩ = some (.int .i64 0) ∧ w1.cell? ⟨w.heap.size, 1, none⟩ = some (.int .i64 0) ∧ w1.cell? ⟨w.heap.size, 2, none⟩ = some (.string { data := #[] }) ∧ w1.cell? ⟨w.heap.size, 3, none⟩ = some (.int .i64 0) ∧
    w1.frozen? ⟨w.heap.size, 0, none⟩ = false ∧ w1.frozen? ⟨w.heap.size, 1, none⟩ = false ∧ w1.frozen? ⟨w.heap.size, 2, none⟩ = false ∧ w1.frozen? ⟨w.heap.size, 3, none⟩ = false ∧
    Below w.heap.size w w1 ∧ w.heap.size < w1.heap.size := by
  have hlt : ∀ o, w.heap.size < (w.alloc o).heap.size := by intro o; simp
  refine ⟨?_, ?_, ?_, ?_, ?_, ?_, ?_, ?_, ?_, ?_⟩
  · rw [hb.cell (p := ⟨w.heap.size, 0, none⟩) (hlt _)]; simp
  · rw [hb.cell (p := ⟨w.heap.size, 1, none⟩) (hlt _)]; simp
  · rw [hb.cell (p := ⟨w.heap.size, 2, none⟩) (hlt _)]; simp
  · rw [hb.cell (p := ⟨w.heap.size, 3, none⟩) (hlt _)]; simp
  · rw [hb.frozen (p := ⟨w.heap.size, 0, none⟩) (hlt _)]; simp
  · rw [hb.frozen (p := ⟨w.heap.size, 1, none⟩) (hlt _)]; simp
  · rw [hb.frozen (p := ⟨w.heap.size, 2, none⟩) (hlt _)]; simp
  · rw [hb.frozen (p := ⟨w.heap.size, 3, none⟩) (hlt _)]; simp
  · exact ((Below.refl _ _).alloc (Nat.le_refl _) _).trans (hb.mono (Nat.le_of_lt (hlt _)))
  · exact Nat.lt_of_lt_of_le (hlt _) hb.size
theorem box_fault {w w1 : World} (hb : Below (w.alloc (Obj.cells #[Value.int IntKind.i64 0, Value.int IntKind.i64 0] 27)).heap.size (w.alloc (Obj.cells #[Value.int IntKind.i64 0, Value.int IntKind.i64 0] 27)) w1) :
    w1.cell? ⟨w.heap.size, 0, none⟩ = some (.int .i64 0) ∧ w1.cell? ⟨w.heap.size, 1, none⟩ = some (.int .i64 0) ∧ w1.frozen? ⟨w.heap.size, 0, none⟩ = false ∧ w1.frozen? ⟨w.heap.size, 1, none⟩ = false ∧
    Below w.heap.size w w1 ∧ w.heap.size < w1.heap.size := by
  have hlt : ∀ o, w.heap.size < (w.alloc o).heap.size := by intro o; simp
  refine ⟨?_, ?_, ?_, ?_, ?_, ?_⟩
  · rw [hb.cell (p := ⟨w.heap.size, 0, none⟩) (hlt _)]; simp
  · rw [hb.cell (p := ⟨w.heap.size, 1, none⟩) (hlt _)]; simp
  · rw [hb.frozen (p := ⟨w.heap.size, 0, none⟩) (hlt _)]; simp
  · rw [hb.frozen (p := ⟨w.heap.size, 1, none⟩) (hlt _)]; simp
  · exact ((Below.refl _ _).alloc (Nat.le_refl _) _).trans (hb.mono (Nat.le_of_lt (hlt _)))
  · exact Nat.lt_of_lt_of_le (hlt _) hb.size
end Go.Proofs.YtapdhlfgakbebaaDoor
