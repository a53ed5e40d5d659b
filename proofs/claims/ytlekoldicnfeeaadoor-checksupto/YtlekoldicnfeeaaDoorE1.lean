/-
  The program's Encode: whether everything fits (operandsFit, funFits, fits).
-/
import Derived.Test.YtlekoldicnfeeaaDoorE0
namespace Go.Proofs.YtlekoldicnfeeaaDoor
open Go.RowKit Go.Deep
theorem argOk_none (f : List UInt8) (i : Nat) (h : f[i]? = none) (a : Int) : argOk f i a = (a == 0) := by
  unfold argOk
  rw [h]
  rfl
theorem argOk_i (a : Int) : argOk [105] 0 a = isNum a := by
  unfold argOk isNum
  simp
theorem argOk_n (f : List UInt8) (i : Nat) (h : f[i]? = some 110) (a : Int) : argOk f i a = isTwo a := by
  unfold argOk
  rw [h]
  simp
section
set_option maxHeartbeats 8000000
set_option maxRecDepth 100000
theorem opfit_any (k : Nat) (hk : k < 26) (a b : Int) (w : World) (hS : ShIn w) : Calls Tryd.prog 54 #[.agg #[.int .i64 k, .int .i64 a, .int .i64 b]] w fun e w' => e = .returned (.bool (In.ok ⟨k, a, b⟩)) ∧ Below w.heap.size w w' := by
  rw [In.ok_both ⟨k, a, b⟩ (isOp_of hk)]
  have hb0 := (Below.refl w.heap.size w).alloc (Nat.le_refl _) (Obj.cells #[Value.int IntKind.i64 k, Value.int IntKind.i64 a, Value.int IntKind.i64 b] 47)
  have Hb0 : Hid _ := hb0
  obtain ⟨c0, -, -⟩ := (hS.below hb0).cells k hk
  have hk' : (k : Int) < 26 := by omega
  clear hS hb0
  show Calls Tryd.prog 54 _ w fun e w' => e = .returned (.bool (argOk (form k) 0 a && argOk (form k) 1 b)) ∧ _
  rcases kind_form k hk with ⟨h1, h2⟩ | ⟨h1, h2⟩ | ⟨h1, h2⟩ | ⟨h1, h2⟩
  · rw [h1] at c0
    rw [h2]
    clear h1 h2
    rw [argOk_none [] 0 rfl a, argOk_none [] 1 rfl b]
    by_cases ha : a = 0
    · subst ha
      go_enter Tryd.func54, Tryd.ntmps54
      go_wp2
      go_ret
      exact ⟨rfl, Hb0.out⟩
    · have ha2 : (a == 0) = false := by simp [ha]
      rw [ha2]
      clear ha
      go_enter Tryd.func54, Tryd.ntmps54
      go_wp2
      go_ret
      exact ⟨rfl, Hb0.out⟩
  · rw [h1] at c0
    rw [h2]
    clear h1 h2
    rw [argOk_i a, argOk_none [105] 1 rfl b]
    have Ha : Hid _ := isNum_any a (w.alloc (Obj.cells #[Value.int IntKind.i64 k, Value.int IntKind.i64 a, Value.int IntKind.i64 b] 47))
    generalize isNum a = p at Ha ⊢
    cases p
    · go_enter Tryd.func54, Tryd.ntmps54
      go_wp2_with fail
      refine Calls.mono Ha.out ?_
      rintro e9 w9 ⟨rfl, rfl⟩
      clear Ha
      go_wp2
      go_ret
      exact ⟨rfl, Hb0.out⟩
    · go_enter Tryd.func54, Tryd.ntmps54
      go_wp2_with fail
      refine Calls.mono Ha.out ?_
      rintro e9 w9 ⟨rfl, rfl⟩
      clear Ha
      go_wp2
      go_ret
      exact ⟨rfl, Hb0.out⟩
  · rw [h1] at c0
    rw [h2]
    clear h1 h2
    rw [argOk_n [110] 0 rfl a, argOk_none [110] 1 rfl b]
    have Ha : Hid _ := isTwo_any a (w.alloc (Obj.cells #[Value.int IntKind.i64 k, Value.int IntKind.i64 a, Value.int IntKind.i64 b] 47))
    generalize isTwo a = p at Ha ⊢
    cases p
    · go_enter Tryd.func54, Tryd.ntmps54
      go_wp2_with fail
      refine Calls.mono Ha.out ?_
      rintro e9 w9 ⟨rfl, rfl⟩
      clear Ha
      go_wp2
      go_ret
      exact ⟨rfl, Hb0.out⟩
    · go_enter Tryd.func54, Tryd.ntmps54
      go_wp2_with fail
      refine Calls.mono Ha.out ?_
      rintro e9 w9 ⟨rfl, rfl⟩
      clear Ha
      go_wp2
      go_ret
      exact ⟨rfl, Hb0.out⟩
  · rw [h1] at c0
    rw [h2]
    clear h1 h2
    rw [argOk_n [110, 110] 0 rfl a, argOk_n [110, 110] 1 rfl b]
    have Ha : Hid _ := isTwo_any a (w.alloc (Obj.cells #[Value.int IntKind.i64 k, Value.int IntKind.i64 a, Value.int IntKind.i64 b] 47))
    have Hb : Hid _ := isTwo_any b (w.alloc (Obj.cells #[Value.int IntKind.i64 k, Value.int IntKind.i64 a, Value.int IntKind.i64 b] 47))
    generalize isTwo a = p at Ha ⊢
    generalize isTwo b = q at Hb ⊢
    cases p
    · go_enter Tryd.func54, Tryd.ntmps54
      go_wp2_with fail
      refine Calls.mono Ha.out ?_
      rintro e9 w9 ⟨rfl, rfl⟩
      clear Ha
      go_wp2
      go_ret
      exact ⟨rfl, Hb0.out⟩
    · go_enter Tryd.func54, Tryd.ntmps54
      go_wp2_with fail
      refine Calls.mono Ha.out ?_
      rintro e9 w9 ⟨rfl, rfl⟩
      clear Ha
      go_wp2_with fail
      refine Calls.mono Hb.out ?_
      rintro e9 w9 ⟨rfl, rfl⟩
      go_wp2
      go_ret
      exact ⟨rfl, Hb0.out⟩
end
end Go.Proofs.YtlekoldicnfeeaaDoor
