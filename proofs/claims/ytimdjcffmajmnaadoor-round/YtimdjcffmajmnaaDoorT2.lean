/-
  What the rows' lists give where errors.errorType is listed: its cell.
-/
import Derived.Test.YtimdjcffmajmnaaDoorT1
import Derived.Test.YtimdjcffmajmnaaDoorD1
import Derived.LaidHandle
namespace Go.Proofs.YtimdjcffmajmnaaDoor
open Go.ChangeShapes Go.WideShapes Go.RowKit
theorem gEt : Tryd.prog.globalNamed "errors.errorType" = some 2 := by kernel_rfl
theorem rt137 : (Tryd.prog.cutTypes.find? (·.1 == "internal/reflectlite.rtype")).map (·.2) = some 137 := by kernel_rfl
theorem oneError : ((List.range 188).filter fun t => Tryd.prog.rowNamed t [101, 114, 114, 111, 114]) = [59] := by kernel_rfl
theorem types188 : Tryd.prog.types.size = 188 := by kernel_rfl
theorem handle59 : typeHandle Tryd.prog 59 = .pointer (some ⟨4, 59, none⟩) := by kernel_rfl
theorem met_et {W : World} {hs : List (String × DataW Unit)} (h : handlesMet Tryd.prog hs W) (hm : ("errors.errorType", Rows.laid_errors_errorType) ∈ hs) : EtIn W := by
  obtain ⟨name, u, ty, e1, e2, e3, e4, e5⟩ := h _ hm
  have en : name = [101, 114, 114, 111, 114] := (Option.some.inj e1).symm
  subst en
  obtain rfl := Option.some.inj (rt137.symm.trans e2)
  have hm : ty ∈ (List.range 188).filter fun t => Tryd.prog.rowNamed t [101, 114, 114, 111, 114] := List.mem_filter.2 ⟨List.mem_range.2 (by rw [← types188]; exact e3), e4⟩
  rw [oneError] at hm
  obtain rfl := List.mem_singleton.1 hm
  rw [handle59] at e5
  obtain ⟨t, fr, hh⟩ := var_heap gEt e5
  exact ⟨⟨t, fr, hh⟩⟩
end Go.Proofs.YtimdjcffmajmnaaDoor
