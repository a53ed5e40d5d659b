/-
  What the rows' lists give: the tables' cells hold what the text lays.
-/
import Derived.Test.YtlekoldicnfeeaaDoorE0
import Derived.ProofKit
import Derived.OpenShut
import Derived.Lib.LaidTab
import Derived.ChangeSame
import Derived.ChangeArms
import Derived.Deep.Strs
namespace Go.Proofs.YtlekoldicnfeeaaDoor
open Go.ChangeShapes Go.WideShapes Go.ChangeAt Go.RowKit Go.Deep
set_option maxRecDepth 100000
theorem gWidths : Tryd.prog.globalNamed "mlcore/code.widths" = some 0 := by kernel_rfl
theorem gWidthsT : (Tryd.prog.globals[0]?).map (·.type) = some 77 := by kernel_rfl
theorem gShapes : Tryd.prog.globalNamed "mlcore/code.shapes" = some 1 := by kernel_rfl
theorem gShapesT : (Tryd.prog.globals[1]?).map (·.type) = some 80 := by kernel_rfl
theorem gSigns : Tryd.prog.globalNamed "mlcore/code.signs" = some 3 := by kernel_rfl
theorem gSignsT : (Tryd.prog.globals[3]?).map (·.type) = some 160 := by kernel_rfl
theorem cellsOf3 : Tryd.prog.cellsOf 3 = 1 := by kernel_rfl
theorem cellsOf9 : Tryd.prog.cellsOf 9 = 1 := by kernel_rfl
theorem cellsOf77 : Tryd.prog.cellsOf 77 = 4 := by kernel_rfl
theorem cellsOf79 : Tryd.prog.cellsOf 79 = 3 := by kernel_rfl
theorem cellsOf80 : Tryd.prog.cellsOf 80 = 78 := by kernel_rfl
theorem cellsOf160 : Tryd.prog.cellsOf 160 = 15 := by kernel_rfl
theorem var_heap {P : Program} {W : World} {n : String} {g : Nat} {cs : Array Value} (hg : P.globalNamed n = some g) (h : W.var? P n = some cs) : ∃ t fr, W.heap[g]? = some (.cells cs t fr) := by
  unfold World.var? at h
  rw [hg] at h
  simp only [Option.bind_some] at h
  split at h
  · rename_i c t fr hh
    obtain rfl := Option.some.inj h
    exact ⟨t, fr, hh⟩
  · cases h
/-- One of the variables that a list lays. -/
theorem laid_one {w : World} {n : String} {d : DataW Unit} : ∀ {l : List (String × DataW Unit)} {ps : List MemPlace}, DataW.LaidVars Tryd.prog w l ps → (n, d) ∈ l →
    ∃ g t cs fuel p, Tryd.prog.globalNamed n = some g ∧ (Tryd.prog.globals[g]?).map (·.type) = some t ∧ w.var? Tryd.prog n = some cs ∧ DataW.trod (fun _ => ()) Tryd.prog w 0 (fun _ => true) false fuel t cs.toList = some (d, p)
  | [], _, _, h => by cases h
  | (n', d') :: r, ps, hl, h => by
    obtain ⟨g, t, cs, fuel, p, q, h1, h2, h3, h4, h5, _⟩ := hl
    rcases List.mem_cons.1 h with e | h
    · cases e
      exact ⟨g, t, cs, fuel, p, h1, h2, h3, h4⟩
    · exact laid_one h5 h
section
variable {H : Type} {enc : TypeId × Value → H} {w : World} {base : Nat} {sp : Nat → Bool} {held : Bool} {fuel : Nat} {cs : List Value} {p : List MemPlace}
theorem cells_of_strs {t : TypeId} {n : Nat} {ls : List (List UInt8)} (ht : Tryd.prog.underlying t = some (.array n 9)) (hct : Tryd.prog.cellsOf t = n)
    (h : DataW.trod enc Tryd.prog w base sp held fuel t cs = some (.agg (ls.map fun l => .lit (.string l)), p)) : cs = ls.map fun l => Value.string { data := l.toArray } := by
  obtain ⟨xs, m, _, hx, hl, hxl, hf⟩ := DataW.trod_array ht h
  have hxs : ls.map (fun l => (DataW.lit (.string l) : DataW H)) = xs.map (·.1) := by
    have := congrArg Prod.fst hx
    simpa using this
  have hll : ls.length = n := by
    have := congrArg List.length hxs
    simp at this
    omega
  apply List.ext_getElem?
  intro i
  by_cases hi : i < n
  · have hfi := hf i hi
    have hxi : xs[i]? = some xs[i] := List.getElem?_eq_getElem (by omega)
    rw [hxi] at hfi
    obtain ⟨s, hc, hs, _⟩ := DataW.trod_string Tryd.underlying9 hfi
    have h1 : cs[i]? = some (.string s) := by
      have := congrArg (·[0]?) hc
      rw [cellsOf9, Nat.mul_one] at this
      simpa [List.getElem?_take, List.getElem?_drop] using this
    have h2 : (ls.map (fun l => (DataW.lit (.string l) : DataW H)))[i]? = some (.lit (.string s.data.toList)) := by
      rw [hxs, List.getElem?_map, hxi, hs]
      rfl
    simp only [List.getElem?_map, Option.map_eq_some_iff, DataW.lit.injEq, Lit.string.injEq] at h2
    obtain ⟨l, hl1, hl2⟩ := h2
    rw [h1, List.getElem?_map, hl1, hl2]
    simp
  · rw [List.getElem?_eq_none (by omega), List.getElem?_eq_none (by simp; omega)]
theorem cells_of_ints {t : TypeId} {n : Nat} {ls : List Int} (ht : Tryd.prog.underlying t = some (.array n 3)) (hct : Tryd.prog.cellsOf t = n)
    (h : DataW.trod enc Tryd.prog w base sp held fuel t cs = some (.agg (ls.map fun l => .lit (.int .i64 l)), p)) : cs = ls.map fun l => Value.int .i64 l := by
  obtain ⟨xs, m, _, hx, hl, hxl, hf⟩ := DataW.trod_array ht h
  have hxs : ls.map (fun l => (DataW.lit (.int .i64 l) : DataW H)) = xs.map (·.1) := by
    have := congrArg Prod.fst hx
    simpa using this
  have hll : ls.length = n := by
    have := congrArg List.length hxs
    simp at this
    omega
  apply List.ext_getElem?
  intro i
  by_cases hi : i < n
  · have hfi := hf i hi
    have hxi : xs[i]? = some xs[i] := List.getElem?_eq_getElem (by omega)
    rw [hxi] at hfi
    obtain ⟨s, hc, hs, _⟩ := DataW.trod_int Tryd.underlying3 hfi
    have h1 : cs[i]? = some (.int .i64 s) := by
      have := congrArg (·[0]?) hc
      rw [cellsOf3, Nat.mul_one] at this
      simpa [List.getElem?_take, List.getElem?_drop] using this
    have h2 : (ls.map (fun l => (DataW.lit (.int .i64 l) : DataW H)))[i]? = some (.lit (.int .i64 s)) := by
      rw [hxs, List.getElem?_map, hxi, hs]
      rfl
    simp only [List.getElem?_map, Option.map_eq_some_iff, DataW.lit.injEq, Lit.int.injEq, true_and] at h2
    obtain ⟨l, hl1, hl2⟩ := h2
    rw [h1, List.getElem?_map, hl1, hl2]
    simp
  · rw [List.getElem?_eq_none (by omega), List.getElem?_eq_none (by simp; omega)]
theorem cells_of_row {m : Nat} {us : List Value} {a b c : Int} {q : List MemPlace} (h : DataW.trod enc Tryd.prog w base sp held m 79 us = some (.agg [.lit (.int .i64 a), .lit (.int .i64 b), .lit (.int .i64 c)], q)) : us = [.int .i64 a, .int .i64 b, .int .i64 c] := by
  obtain ⟨y0, y1, y2, n, hx, hl, h0, h1, h2⟩ := trod_struct3 Tryd.underlying79 h
  rw [cellsOf79] at hl
  match us, hl with
  | [u0, u1, u2], _ =>
    obtain ⟨n0, hc0, rfl, _⟩ := DataW.trod_int Tryd.underlying3 h0
    obtain ⟨n1, hc1, rfl, _⟩ := DataW.trod_int Tryd.underlying3 h1
    obtain ⟨n2, hc2, rfl, _⟩ := DataW.trod_int Tryd.underlying3 h2
    rw [cellsOf3] at hc0 hc1 hc2
    simp at hc0 hc1 hc2 hx
    rw [hc0, hc1, hc2, hx.1.1, hx.1.2.1, hx.1.2.2]
theorem flat3 (ls : List (Int × Int × Int)) : ∀ (cs : List Value), cs.length = ls.length * 3 → (∀ i (hi : i < ls.length), (cs.drop (i * 3)).take 3 = [Value.int .i64 (ls[i]'hi).1, .int .i64 (ls[i]'hi).2.1, .int .i64 (ls[i]'hi).2.2]) → cs = ls.flatMap fun x => [Value.int .i64 x.1, .int .i64 x.2.1, .int .i64 x.2.2] := by
  induction ls with
  | nil => intro cs h _; simpa using h
  | cons x ls ih =>
    intro cs h hi
    have h0 := hi 0 (by simp)
    simp only [Nat.zero_mul, List.drop_zero, List.getElem_cons_zero] at h0
    have e : cs = cs.take 3 ++ cs.drop 3 := (List.take_append_drop 3 cs).symm
    rw [List.flatMap_cons, ← h0, ← ih (cs.drop 3) (by simp at h ⊢; omega) (fun i hi' => by
      have := hi (i + 1) (by simp; omega)
      simp only [List.getElem_cons_succ] at this
      rw [List.drop_drop, show 3 + i * 3 = (i + 1) * 3 by omega]
      exact this)]
    exact e
theorem cells_of_shapes (h : DataW.trod enc Tryd.prog w base sp held fuel 80 cs = some (Rows.laid_mlcore_code_shapes, p)) : cs = shapeCells.toList := by
  obtain ⟨xs, m, _, hx, hl, hxl, hf⟩ := DataW.trod_array Tryd.underlying80 h
  rw [cellsOf80] at hl
  rw [cellsOf79] at hf
  have hD : (Rows.laid_mlcore_code_shapes : DataW H) = .agg ((kindT.zip (takeT.zip putT)).map fun x => .agg [.lit (.int .i64 x.1), .lit (.int .i64 x.2.1), .lit (.int .i64 x.2.2)]) := rfl
  have hxs : ((kindT.zip (takeT.zip putT)).map fun x => (DataW.agg [.lit (.int .i64 x.1), .lit (.int .i64 x.2.1), .lit (.int .i64 x.2.2)] : DataW H)) = xs.map (·.1) := by
    have := congrArg Prod.fst hx
    rw [hD] at this
    simpa only [DataW.agg.injEq] using this
  show cs = (kindT.zip (takeT.zip putT)).flatMap fun x => [Value.int .i64 x.1, .int .i64 x.2.1, .int .i64 x.2.2]
  have hL : (kindT.zip (takeT.zip putT)).length = 26 := rfl
  generalize kindT.zip (takeT.zip putT) = ls at *
  refine flat3 ls cs (by omega) fun i hi => ?_
  have hfi := hf i (by omega)
  have hxi : xs[i]? = some xs[i] := List.getElem?_eq_getElem (by omega)
  rw [hxi] at hfi
  have h2 : (ls.map fun x => (DataW.agg [.lit (.int .i64 x.1), .lit (.int .i64 x.2.1), .lit (.int .i64 x.2.2)] : DataW H))[i]? = some xs[i].1 := by
    rw [hxs, List.getElem?_map, hxi]
    rfl
  rw [List.getElem?_map, List.getElem?_eq_getElem hi] at h2
  simp only [Option.map_some, Option.some.injEq] at h2
  have h3 : DataW.trod enc Tryd.prog w base sp held m 79 ((cs.drop (i * 3)).take 3) = some (.agg [.lit (.int .i64 (ls[i]'hi).1), .lit (.int .i64 (ls[i]'hi).2.1), .lit (.int .i64 (ls[i]'hi).2.2)], xs[i].2) := by rw [hfi, h2]
  exact cells_of_row h3
end
theorem laid_shapes {w : World} {l : List (String × DataW Unit)} (h : laidMet Tryd.prog l w) (hm : ("mlcore/code.shapes", Rows.laid_mlcore_code_shapes) ∈ l) : ShIn w := by
  obtain ⟨ps, hl, _⟩ := h
  obtain ⟨g, t, cs, fuel, p, hg, ht, hv, hd⟩ := laid_one hl hm
  obtain rfl := Option.some.inj (gShapes.symm.trans hg)
  obtain rfl := Option.some.inj (gShapesT.symm.trans ht)
  have e := cells_of_shapes hd
  obtain ⟨t, fr, hh⟩ := var_heap gShapes hv
  exact ⟨⟨t, fr, by rw [hh, Array.toList_inj.1 e]⟩⟩
theorem laid_widths {w : World} {l : List (String × DataW Unit)} (h : laidMet Tryd.prog l w) (hm : ("mlcore/code.widths", Rows.laid_mlcore_code_widths) ∈ l) : WdIn w := by
  obtain ⟨ps, hl, _⟩ := h
  obtain ⟨g, t, cs, fuel, p, hg, ht, hv, hd⟩ := laid_one hl hm
  obtain rfl := Option.some.inj (gWidths.symm.trans hg)
  obtain rfl := Option.some.inj (gWidthsT.symm.trans ht)
  have e : cs.toList = widthCells.toList := cells_of_ints (ls := widthT) Tryd.underlying77 cellsOf77 hd
  obtain ⟨t, fr, hh⟩ := var_heap gWidths hv
  exact ⟨⟨t, fr, by rw [hh, Array.toList_inj.1 e]⟩⟩
theorem laid_signs {w : World} {l : List (String × DataW Unit)} (h : laidMet Tryd.prog l w) (hm : ("mlcore/code.signs", Rows.laid_mlcore_code_signs) ∈ l) : SgIn w := by
  obtain ⟨ps, hl, _⟩ := h
  obtain ⟨g, t, cs, fuel, p, hg, ht, hv, hd⟩ := laid_one hl hm
  obtain rfl := Option.some.inj (gSigns.symm.trans hg)
  obtain rfl := Option.some.inj (gSignsT.symm.trans ht)
  have e : cs.toList = signCells.toList := cells_of_strs (ls := signT) Tryd.underlying160 cellsOf160 hd
  obtain ⟨t, fr, hh⟩ := var_heap gSigns hv
  exact ⟨⟨t, fr, by rw [hh, Array.toList_inj.1 e]⟩⟩
end Go.Proofs.YtlekoldicnfeeaaDoor
