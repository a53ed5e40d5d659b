/-
  errors.As at a target of the program's own: of a refusal it says true, and the target is set.
-/
import Derived.Test.YtimdjcffmajmnaaDoorD0
namespace Go.Proofs.YtimdjcffmajmnaaDoor
open Go.RowKit Go.Deep Go.Extern.Stop Go.Stop Go.Extern
/-- The variable errors.errorType. -/
structure EtIn (w : World) : Prop where
  is : ∃ t fr, w.heap[2]? = some (.cells #[.iface 137 (.agg #[.pointer (some ⟨4, 59, none⟩)])] t fr)
theorem EtIn.lt {w : World} (h : EtIn w) : 2 < w.heap.size := by
  obtain ⟨t, fr, h⟩ := h.is
  exact (Array.getElem?_eq_some_iff.1 h).1
theorem EtIn.of_block {w w' : World} (h : EtIn w) (e : w'.heap[2]? = w.heap[2]?) : EtIn w' := by
  obtain ⟨t, fr, h⟩ := h.is
  exact ⟨⟨t, fr, e.trans h⟩⟩
theorem EtIn.below {w w' : World} (h : EtIn w) (hb : Below w.heap.size w w') : EtIn w' := h.of_block (hb.block 2 h.lt)
theorem EtIn.kp {X : List Nat} {w w' : World} (h : EtIn w) (hb : Kp X w w') (hx : 2 ∉ X) : EtIn w' := h.of_block (hb.block 2 h.lt hx)
theorem EtIn.cell {w : World} (h : EtIn w) : w.cell? ⟨2, 0, none⟩ = some (.iface 137 (.agg #[.pointer (some ⟨4, 59, none⟩)])) := by
  obtain ⟨t, fr, h⟩ := h.is
  simp [World.cell?, h]
/-- The target. -/
def TBox (w : World) (tb : Nat) (k a : Int) : Prop := w.heap[tb]? = some (.cells #[.int .i64 k, .int .i64 a] 63)
theorem TBox.lt {w : World} {tb : Nat} {k a : Int} (h : TBox w tb k a) : tb < w.heap.size := (Array.getElem?_eq_some_iff.1 h).1
section
set_option maxHeartbeats 8000000
set_option maxRecDepth 100000
theorem as_hit (k a k0 a0 : Int) (tb : Nat) (w : World) (hE : EtIn w) (ht : TBox w tb k0 a0) :
    Calls Tryd.prog 23 #[.iface 63 (.agg #[.int .i64 k, .int .i64 a]), .iface 65 (.pointer (some ⟨tb, 0, none⟩))] w fun ev w' => ev = .returned (.bool true) ∧ TBox w' tb k a ∧ Kp [tb] w w' := by
  have h42 := @run_callFunc_extern Tryd.prog 42 _ (fun args => ReflectliteValue.unpack (args.getD 0 (.tuple #[]))) Tryd.func42 (by kernel_rfl) (by kernel_rfl) (by kernel_rfl) (by kernel_rfl)
  have h43 := @run_callFunc_extern Tryd.prog 43 _ (ReflectliteValue.methodAny (ReflectliteValue.valueError "reflectlite.Value.Type" 0) (fun t _ _ _ => ReflectliteType.toType t)) Tryd.func43 (by kernel_rfl) (by kernel_rfl) (by kernel_rfl) (by kernel_rfl)
  have h44 := @run_callFunc_extern Tryd.prog 44 _ (ReflectliteValue.method (ReflectliteValue.valueError "reflectlite.Value.IsNil" 0) ReflectliteValue.isNil) Tryd.func44 (by kernel_rfl) (by kernel_rfl) (by kernel_rfl) (by kernel_rfl)
  have h85 := @run_callFunc_extern Tryd.prog 85 _ (ReflectliteType.abiMethod fun t => do pure (.int .u8 (← Rtype.kind t))) Tryd.func85 (by kernel_rfl) (by kernel_rfl) (by kernel_rfl) (by kernel_rfl)
  have h95 := @run_callFunc_extern Tryd.prog 95 _ (ReflectliteType.method ReflectliteType.elem) Tryd.func95 (by kernel_rfl) (by kernel_rfl) (by kernel_rfl) (by kernel_rfl)
  have h96 := @run_callFunc_extern Tryd.prog 96 _ (ReflectliteType.relation "Implements" ReflectliteType.implements_) Tryd.func96 (by kernel_rfl) (by kernel_rfl) (by kernel_rfl) (by kernel_rfl)
  have h62 := @run_callFunc_extern Tryd.prog 62 _ ReflectliteType.typeOf Tryd.func62 (by kernel_rfl) (by kernel_rfl) (by kernel_rfl) (by kernel_rfl)
  have h93 := @run_callFunc_extern Tryd.prog 93 _ (ReflectliteType.relation "AssignableTo" ReflectliteType.assignableTo) Tryd.func93 (by kernel_rfl) (by kernel_rfl) (by kernel_rfl) (by kernel_rfl)
  have h63 := @run_callFunc_extern Tryd.prog 63 _ (ReflectliteValue.method (ReflectliteValue.valueError "reflectlite.Value.Elem" 0) ReflectliteValue.elem) Tryd.func63 (by kernel_rfl) (by kernel_rfl) (by kernel_rfl) (by kernel_rfl)
  have h64 := @run_callFunc_extern Tryd.prog 64 _ ReflectliteValue.set Tryd.func64 (by kernel_rfl) (by kernel_rfl) (by kernel_rfl) (by kernel_rfl)
  have tO := typeOf63
  have mA := methodAssignableTo
  have a63 := assignable63
  have v63 := valueOf63
  have f42 := valueOf65
  have f43 := type65
  have mK := methodKind
  have mE := methodElem
  have mI := methodImplements
  have k65 := kind65
  have k63 := kind63
  have e65 := elem65
  have i63 := implements63
  have hlt := ht.lt
  have n44 := isNil65 ⟨w.heap.size, 0, none⟩ ⟨tb, 0, none⟩ ((w.alloc (.cells #[.pointer (some ⟨tb, 0, none⟩)] 65)).alloc (.cells #[.pointer (some ⟨4, 65, none⟩), .pointer (some ⟨w.heap.size, 0, none⟩), .int .u64 150] 101)) (by simp)
  have hg := hE.cell
  have hgl := hE.lt
  have hg2 : ((w.alloc (.cells #[.pointer (some ⟨tb, 0, none⟩)] 65)).alloc (.cells #[.pointer (some ⟨4, 65, none⟩), .pointer (some ⟨w.heap.size, 0, none⟩), .int .u64 150] 101)).cell? ⟨2, 0, none⟩ = some (.iface 137 (.agg #[.pointer (some ⟨4, 59, none⟩)])) := by
    rw [World.cell?_alloc_lt _ _ ⟨2, 0, none⟩ (by simp; omega), World.cell?_alloc_lt _ _ ⟨2, 0, none⟩ hgl]; exact hg
  have el := elemV65 ⟨w.heap.size, 0, none⟩ ⟨tb, 0, none⟩ (((w.alloc (.cells #[.pointer (some ⟨tb, 0, none⟩)] 65)).alloc (.cells #[.pointer (some ⟨4, 65, none⟩), .pointer (some ⟨w.heap.size, 0, none⟩), .int .u64 150] 101)).alloc (.cells #[.pointer (some ⟨4, 65, none⟩), .pointer (some ⟨w.heap.size, 0, none⟩), .int .u64 150] 101)) (by rw [World.cell?_alloc_lt _ _ ⟨w.heap.size, 0, none⟩ (by simp; omega)]; simp)
  have htD : TBox ((((w.alloc (.cells #[.pointer (some ⟨tb, 0, none⟩)] 65)).alloc (.cells #[.pointer (some ⟨4, 65, none⟩), .pointer (some ⟨w.heap.size, 0, none⟩), .int .u64 150] 101)).alloc (.cells #[.pointer (some ⟨4, 65, none⟩), .pointer (some ⟨w.heap.size, 0, none⟩), .int .u64 150] 101)).alloc (.cells #[.int .i64 k, .int .i64 a] 63)) tb k0 a0 := (Below.heap_alloc _ _ _ (by simp; omega)).trans ((Below.heap_alloc _ _ _ (by simp; omega)).trans ((Below.heap_alloc _ _ _ (by simp; omega)).trans ((Below.heap_alloc _ _ _ hlt).trans ht)))
  have st := set63 tb (w.heap.size + 1 + 1 + 1) k a k0 a0 ((((w.alloc (.cells #[.pointer (some ⟨tb, 0, none⟩)] 65)).alloc (.cells #[.pointer (some ⟨4, 65, none⟩), .pointer (some ⟨w.heap.size, 0, none⟩), .int .u64 150] 101)).alloc (.cells #[.pointer (some ⟨4, 65, none⟩), .pointer (some ⟨w.heap.size, 0, none⟩), .int .u64 150] 101)).alloc (.cells #[.int .i64 k, .int .i64 a] 63)) (by rw [World.cell?_alloc_at _ _ _ _ (by simp)]; rfl) (by rw [World.cell?_alloc_at _ _ _ _ (by simp)]; rfl) htD
  have Q : Hid (TBox ((((((w.alloc (.cells #[.pointer (some ⟨tb, 0, none⟩)] 65)).alloc (.cells #[.pointer (some ⟨4, 65, none⟩), .pointer (some ⟨w.heap.size, 0, none⟩), .int .u64 150] 101)).alloc (.cells #[.pointer (some ⟨4, 65, none⟩), .pointer (some ⟨w.heap.size, 0, none⟩), .int .u64 150] 101)).alloc (.cells #[.int .i64 k, .int .i64 a] 63)).setCell ⟨tb, 0, none⟩ (.int .i64 k)).setCell ⟨tb, 1, none⟩ (.int .i64 a)) tb k a ∧ Kp [tb] w ((((((w.alloc (.cells #[.pointer (some ⟨tb, 0, none⟩)] 65)).alloc (.cells #[.pointer (some ⟨4, 65, none⟩), .pointer (some ⟨w.heap.size, 0, none⟩), .int .u64 150] 101)).alloc (.cells #[.pointer (some ⟨4, 65, none⟩), .pointer (some ⟨w.heap.size, 0, none⟩), .int .u64 150] 101)).alloc (.cells #[.int .i64 k, .int .i64 a] 63)).setCell ⟨tb, 0, none⟩ (.int .i64 k)).setCell ⟨tb, 1, none⟩ (.int .i64 a))) := by
    refine ⟨?_, ?_⟩
    · unfold TBox at htD ⊢
      simp [World.setCell, Array.getElem?_modify, htD]
    · exact ((((((Kp.alloc _ _ _).trans (Kp.alloc _ _ _)).trans (Kp.alloc _ _ _)).trans (Kp.alloc _ _ _)).trans (Kp.setCell _ ⟨tb, 0, none⟩ (by simp) _)).trans (Kp.setCell _ ⟨tb, 1, none⟩ (by simp) _))
  clear htD ht hE hg
  go_enter Tryd.func23, Tryd.ntmps23
  go_wp2
  refine wp_loop_rounds 1 ?_
  rw [rounds_succ]
  go_wp2
  go_ret
  exact ⟨rfl, Q.out⟩
end
end Go.Proofs.YtimdjcffmajmnaaDoor
