/-
  Bytes of one's own, and the text that they are; lists cut in two. Plain laws.
-/
import Derived.Test.YtlekoldicnfeeaaDoorC4
import Derived.Lib.AppendStr
import Derived.Laws.BytesArg
namespace Go.Proofs.YtlekoldicnfeeaaDoor
open Go.RowKit Go.Deep
def byteCells (l : List UInt8) : List Value := l.map fun b => .int .u8 b.toNat
theorem byteCells_app (l r : List UInt8) : byteCells (l ++ r) = byteCells l ++ byteCells r := by simp [byteCells]
theorem strCells_eq (l : List UInt8) : Lib.strCells { data := l.toArray } = byteCells l := by simp [Lib.strCells, byteCells]
theorem infos5 : (Tryd.prog.info? 5).map (fun i => (i.zero, i.size, i.bytes)) = some (some (.int .u8 0), 1, 1) := by kernel_rfl
theorem info_parts {t : TypeId} {z : Option Value} {n b : Nat} (h : (Tryd.prog.info? t).map (fun i => (i.zero, i.size, i.bytes)) = some (z, n, b)) : ∃ i, Tryd.prog.info? t = some i ∧ i.zero = z ∧ i.size = n ∧ i.bytes = b := by
  cases hi : Tryd.prog.info? t with
  | none => rw [hi] at h; cases h
  | some i =>
    rw [hi] at h
    simp only [Option.map_some, Option.some.injEq, Prod.mk.injEq] at h
    exact ⟨i, rfl, h.1, h.2.1, h.2.2⟩
theorem owned_str {w : World} {base : Nat} {v : Value} {l : List UInt8} (h : w.ownsRow base 5 1 v l.length (byteCells l)) : (convert 42 9 v).run Tryd.prog w = .ok (.string { data := l.toArray }) w := by
  rcases h.2 with ⟨rfl, h0⟩ | ⟨g, cap, cur, rfl, h1, h2, h3, h4, h5, h6⟩
  · have : l = [] := List.eq_nil_of_length_eq_zero h0
    subst this
    have := run_convert_bytes_nil (P := Tryd.prog) w 42 5 Tryd.underlying42 Tryd.underlying5 0 0 9 Tryd.underlying9
    exact this
  · refine run_convert_bytes_back (P := Tryd.prog) w 42 9 5 ⟨g, 0, none⟩ cap l Tryd.underlying42 Tryd.underlying5 Tryd.underlying9 ?_
    intro j hj
    have hc := h.cellAt j (by omega)
    have e : (⟨g, 0, none⟩ : Addr).add j = ⟨g, j, none⟩ := by unfold Addr.add; split <;> simp_all
    rw [e]
    rw [hc]
    simp [byteCells, hj]
theorem drop_flat {α : Type} (g : α → List UInt8) (l : List α) (i : Nat) (hi : i < l.length) : (l.drop i).flatMap g = g (l[i]'hi) ++ (l.drop (i + 1)).flatMap g := by
  rw [List.drop_eq_getElem_cons hi, List.flatMap_cons]
theorem drop_all {α : Type} (g : α → Bool) (l : List α) (i : Nat) (hi : i < l.length) : (l.drop i).all g = (g (l[i]'hi) && (l.drop (i + 1)).all g) := by
  rw [List.drop_eq_getElem_cons hi, List.all_cons]
theorem drop_done {α : Type} (l : List α) (i : Nat) (hi : ¬ i < l.length) : l.drop i = [] := List.drop_eq_nil_of_le (by omega)
end Go.Proofs.YtlekoldicnfeeaaDoor
