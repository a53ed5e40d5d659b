/-
  What the walk of Token of the second reader holds: the block of its result and the block of the token that it fills.
-/
import Derived.Test.YtapdhlfgakbebaaDoorR5
import Derived.RegionTactic
import Derived.ChangeAlike
namespace Go.Proofs.YtapdhlfgakbebaaDoor
open Go.RowKit
/-- What the second reader of a token answers: the token and the place behind it, or some token and -1. -/
def TokEnd (a : Int) (e : Ending) : Option (Lx.Tok × Nat) → Prop
  | none => ∃ x0 x1 : Int, ∃ x2 : ByteArray, ∃ x3 : Int, e = .returned (.tuple #[.agg #[.int .i64 x0, .int .i64 x1, .string x2, .int .i64 x3], .int .i64 (-1)])
  | some (t, k) => e = .returned (.tuple #[.agg #[.int .i64 t.kind, .int .i64 a, .string { data := t.text.toArray }, .int .i64 t.n], .int .i64 (a + k)])
/-- The result's block, empty, and the token's block. -/
def Two (w w' : World) (k a : Int) (t : ByteArray) (n : Int) : Prop :=
  (w'.cell? ⟨w.heap.size, 0, none⟩ = some (.int .i64 0) ∧ w'.cell? ⟨w.heap.size, 1, none⟩ = some (.int .i64 0) ∧ w'.cell? ⟨w.heap.size, 2, none⟩ = some (.string { data := #[] }) ∧ w'.cell? ⟨w.heap.size, 3, none⟩ = some (.int .i64 0)) ∧
  (w'.frozen? ⟨w.heap.size, 0, none⟩ = false ∧ w'.frozen? ⟨w.heap.size, 1, none⟩ = false ∧ w'.frozen? ⟨w.heap.size, 2, none⟩ = false ∧ w'.frozen? ⟨w.heap.size, 3, none⟩ = false) ∧
  (w'.cell? ⟨w.heap.size + 1, 0, none⟩ = some (.int .i64 k) ∧ w'.cell? ⟨w.heap.size + 1, 1, none⟩ = some (.int .i64 a) ∧ w'.cell? ⟨w.heap.size + 1, 2, none⟩ = some (.string t) ∧ w'.cell? ⟨w.heap.size + 1, 3, none⟩ = some (.int .i64 n)) ∧
  (w'.frozen? ⟨w.heap.size + 1, 0, none⟩ = false ∧ w'.frozen? ⟨w.heap.size + 1, 1, none⟩ = false ∧ w'.frozen? ⟨w.heap.size + 1, 2, none⟩ = false ∧ w'.frozen? ⟨w.heap.size + 1, 3, none⟩ = false) ∧
  Below w.heap.size w w' ∧ w.heap.size + 1 < w'.heap.size
theorem Two.keep {w w1 w2 : World} {k a : Int} {t : ByteArray} {n : Int} (h : Two w w1 k a t n) (hb : Below w1.heap.size w1 w2) : Two w w2 k a t n := by
  obtain ⟨⟨a0, a1, a2, a3⟩, ⟨b0, b1, b2, b3⟩, ⟨c0, c1, c2, c3⟩, ⟨d0, d1, d2, d3⟩, hbw, hsz⟩ := h
  have e : ∀ i, w2.cell? ⟨w.heap.size, i, none⟩ = w1.cell? ⟨w.heap.size, i, none⟩ := fun i => hb.cell (p := ⟨w.heap.size, i, none⟩) (Nat.lt_of_succ_lt hsz)
  have e1 : ∀ i, w2.cell? ⟨w.heap.size + 1, i, none⟩ = w1.cell? ⟨w.heap.size + 1, i, none⟩ := fun i => hb.cell (p := ⟨w.heap.size + 1, i, none⟩) hsz
  have f : ∀ i, w2.frozen? ⟨w.heap.size, i, none⟩ = w1.frozen? ⟨w.heap.size, i, none⟩ := fun i => hb.frozen (p := ⟨w.heap.size, i, none⟩) (Nat.lt_of_succ_lt hsz)
  have f1 : ∀ i, w2.frozen? ⟨w.heap.size + 1, i, none⟩ = w1.frozen? ⟨w.heap.size + 1, i, none⟩ := fun i => hb.frozen (p := ⟨w.heap.size + 1, i, none⟩) hsz
  refine ⟨⟨?_, ?_, ?_, ?_⟩, ⟨?_, ?_, ?_, ?_⟩, ⟨?_, ?_, ?_, ?_⟩, ⟨?_, ?_, ?_, ?_⟩, hbw.trans (hb.mono (by omega)), Nat.lt_of_lt_of_le hsz hb.size⟩
  · rw [e]; exact a0
  · rw [e]; exact a1
  · rw [e]; exact a2
  · rw [e]; exact a3
  · rw [f]; exact b0
  · rw [f]; exact b1
  · rw [f]; exact b2
  · rw [f]; exact b3
  · rw [e1]; exact c0
  · rw [e1]; exact c1
  · rw [e1]; exact c2
  · rw [e1]; exact c3
  · rw [f1]; exact d0
  · rw [f1]; exact d1
  · rw [f1]; exact d2
  · rw [f1]; exact d3
theorem Two.first (w : World) (k a : Int) (t : ByteArray) (n : Int) : Two w ((w.alloc (Obj.cells #[Value.int IntKind.i64 0, Value.int IntKind.i64 0, Value.string { data := #[] }, Value.int IntKind.i64 0] 31)).alloc (Obj.cells #[Value.int IntKind.i64 k, Value.int IntKind.i64 a, Value.string t, Value.int IntKind.i64 n] 31)) k a t n := by
  obtain ⟨c0, c1, c2, c3, f0, f1, f2, f3, hbw, hsz⟩ := box_tok (w := w) ((Below.refl _ _).alloc (Nat.le_refl _) (Obj.cells #[Value.int IntKind.i64 k, Value.int IntKind.i64 a, Value.string t, Value.int IntKind.i64 n] 31))
  refine ⟨⟨c0, c1, c2, c3⟩, ⟨f0, f1, f2, f3⟩, ⟨?_, ?_, ?_, ?_⟩, ⟨?_, ?_, ?_, ?_⟩, hbw, by simp⟩
  all_goals simp [go_sem]
theorem Two.kind {w w1 : World} {k a : Int} {t : ByteArray} {n : Int} (h : Two w w1 k a t n) (k' : Int) : Two w (w1.setCell ⟨w.heap.size + 1, 0, none⟩ (.int .i64 k')) k' a t n := by
  obtain ⟨⟨a0, a1, a2, a3⟩, ⟨b0, b1, b2, b3⟩, ⟨c0, c1, c2, c3⟩, ⟨d0, d1, d2, d3⟩, hbw, hsz⟩ := h
  refine ⟨⟨?_, ?_, ?_, ?_⟩, ⟨?_, ?_, ?_, ?_⟩, ⟨?_, ?_, ?_, ?_⟩, ⟨?_, ?_, ?_, ?_⟩, hbw.setCell (by simp) _, by simpa using hsz⟩
  all_goals simp [go_sem, *]
end Go.Proofs.YtapdhlfgakbebaaDoor
