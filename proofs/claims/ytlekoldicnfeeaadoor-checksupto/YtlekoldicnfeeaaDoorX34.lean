/-
  Faults compared; a code and a fault in cells of one's own.
-/
import Derived.Test.YtlekoldicnfeeaaDoorC14
import Derived.Test.YtlekoldicnfeeaaDoorC22
namespace Go.Proofs.YtlekoldicnfeeaaDoor
open Go.RowKit Go.Deep
section
set_option maxHeartbeats 8000000
set_option maxRecDepth 100000
theorem part34 : Tryd.prog.underlying 34 = some (.struct (Tryd.prog.fieldsOf 34)) := by kernel_rfl
theorem held34 : Tryd.prog.stoodInHeld 34 = false := by kernel_rfl
theorem guard34 : Tryd.prog.eqGuardType Tryd.prog.depth 34 = false := by kernel_rfl
theorem eq34 (a b : Int) (w : World) : (binOp .eql 34 (.agg #[.int .i64 a, .int .i64 b]) (.agg #[.int .i64 a, .int .i64 b])).run Tryd.prog w = .ok (.bool true) w := by
  have u3 := Tryd.underlying3
  have u26 := Tryd.underlying26
  rw [run_eql_struct, show (10000 : Nat) = 9999 + 1 from rfl, run_equalIn_agg w 9999 34 _ _ part34 held34]
  simp only [Program.fieldsOf, Tryd.underlying34]
  go_simp
theorem EBox.below {w w' : World} {b : Nat} {k a : Int} (h : EBox w b k a) (hb : Below w.heap.size w w') : EBox w' b k a := (hb.block b h.lt).trans h
/-- A code and a fault, each in cells of one's own. -/
theorem boxes2 (w : World) (p : Option Addr) (n cap : Nat) (p' : Option Addr) (n' cap' : Nat) (k a : Int) : CBox ((w.alloc (Obj.cells #[.slice p n cap, .slice p' n' cap'] 25)).alloc (Obj.cells #[.int .i64 k, .int .i64 a] 34)) w.heap.size p n cap p' n' cap' ∧ EBox ((w.alloc (Obj.cells #[.slice p n cap, .slice p' n' cap'] 25)).alloc (Obj.cells #[.int .i64 k, .int .i64 a] 34)) (w.heap.size + 1) k a ∧ Below w.heap.size w ((w.alloc (Obj.cells #[.slice p n cap, .slice p' n' cap'] 25)).alloc (Obj.cells #[.int .i64 k, .int .i64 a] 34)) := by
  have hk1 : Below w.heap.size w (w.alloc (Obj.cells #[.slice p n cap, .slice p' n' cap'] 25)) := (Below.refl _ _).alloc (Nat.le_refl _) _
  have hb1 : CBox (w.alloc (Obj.cells #[.slice p n cap, .slice p' n' cap'] 25)) w.heap.size p n cap p' n' cap' := (MapKept.heap_alloc w _).1
  have hb2 := (MapKept.heap_alloc (w.alloc (Obj.cells #[.slice p n cap, .slice p' n' cap'] 25)) (Obj.cells #[.int .i64 k, .int .i64 a] 34)).1
  refine ⟨hb1.below ((Below.refl _ _).alloc (Nat.le_refl _) _), ?_, hk1.alloc hk1.size _⟩
  unfold EBox
  rw [← hb2]
  simp
end
end Go.Proofs.YtlekoldicnfeeaaDoor
