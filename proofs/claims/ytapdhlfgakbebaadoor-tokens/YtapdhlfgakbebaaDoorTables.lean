/-
  What the rows' list gives: the two tables' cells hold what the text lays.
-/
import Derived.Test.YtapdhlfgakbebaaDoorW16
import Derived.ProofKit
import Derived.OpenShut
import Derived.Lib.LaidTab
namespace Go.Proofs.YtapdhlfgakbebaaDoor
open Go.ChangeShapes Go.WideShapes Go.ChangeAt Go.RowKit
theorem gSigns : Tryd.prog.globalNamed "mlcore/lexer.signs" = some 1 := by kernel_rfl
theorem gSignsType : (Tryd.prog.globals[1]?).map (·.type) = some 59 := by kernel_rfl
theorem gEsc : Tryd.prog.globalNamed "mlcore/lexer.escapes" = some 0 := by kernel_rfl
theorem gEscType : (Tryd.prog.globals[0]?).map (·.type) = some 45 := by kernel_rfl
theorem cells9 : Tryd.prog.cellsOf 9 = 1 := by kernel_rfl
theorem cells59 : Tryd.prog.cellsOf 59 = 29 := by kernel_rfl
theorem cells45 : Tryd.prog.cellsOf 45 = 8 := by kernel_rfl
theorem cells44 : Tryd.prog.cellsOf 44 = 2 := by kernel_rfl
theorem cells5 : Tryd.prog.cellsOf 5 = 1 := by kernel_rfl
theorem cells_of_strs {H : Type} {enc : TypeId × Value → H} {P : Program} {w : World} {base : Nat} {sp : Nat → Bool} {held : Bool} {fuel : Nat} {t e : TypeId} {n : Nat} {cs : List Value} {ls : List (List UInt8)} {p : List MemPlace}
    (ht : P.underlying t = some (.array n e)) (he : P.underlying e = some .string) (hce : P.cellsOf e = 1) (hct : P.cellsOf t = n)
    (h : DataW.trod enc P w base sp held fuel t cs = some (.agg (ls.map fun l => .lit (.string l)), p)) : cs = ls.map fun l => Value.string { data := l.toArray } := by
  obtain ⟨xs, m, _, hx, hl, hxl, hf⟩ := DataW.trod_array ht h
  have hxs : ls.map (fun l => (DataW.lit (.string l) : DataW H)) = xs.map (·.1) := by
    have := congrArg Prod.fst hx
    simpa using this
  have hll : ls.length = n := by
    have := congrArg List.length hxs
    simp at this
    omega
  apply List.ext_getElem?
  intro i
  by_cases hi : i < n
  · have hfi := hf i hi
    have hxi : xs[i]? = some xs[i] := List.getElem?_eq_getElem (by omega)
    rw [hxi] at hfi
    obtain ⟨s, hc, hs, _⟩ := DataW.trod_string he hfi
    have h1 : cs[i]? = some (.string s) := by
      have := congrArg (·[0]?) hc
      rw [hce, Nat.mul_one] at this
      simpa [List.getElem?_take, List.getElem?_drop] using this
    have h2 : (ls.map (fun l => (DataW.lit (.string l) : DataW H)))[i]? = some (.lit (.string s.data.toList)) := by
      rw [hxs, List.getElem?_map, hxi, hs]
      rfl
    simp only [List.getElem?_map, Option.map_eq_some_iff, DataW.lit.injEq, Lit.string.injEq] at h2
    obtain ⟨l, hl1, hl2⟩ := h2
    rw [h1, List.getElem?_map, hl1, hl2]
    simp
  · rw [List.getElem?_eq_none (by omega), List.getElem?_eq_none (by simp; omega)]
theorem cells_of_esc {H : Type} {enc : TypeId × Value → H} {w : World} {base : Nat} {sp : Nat → Bool} {held : Bool} {fuel : Nat} {cs : List Value} {p : List MemPlace}
    (h : DataW.trod enc Tryd.prog w base sp held fuel 45 cs = some (Rows.laid_mlcore_lexer_escapes, p)) : cs = escCells.toList := by
  obtain ⟨xs, m, _, hx, hl, hxl, hf⟩ := DataW.trod_array Tryd.underlying45 h
  rw [cells45] at hl
  rw [cells44] at hf
  have hxs := congrArg Prod.fst hx
  simp only [Rows.laid_mlcore_lexer_escapes, DataW.agg.injEq] at hxs
  match xs, hxl with
  | [x0, x1, x2, x3], _ =>
    match cs, hl with
    | [a0, a1, a2, a3, a4, a5, a6, a7], _ =>
      have pair : ∀ (u v : Value) (x : DataW H × List MemPlace) (k l : Int), DataW.trod enc Tryd.prog w base sp held m 44 [u, v] = some x → x.1 = .agg [.lit (.int .u8 k), .lit (.int .u8 l)] → u = .int .u8 k ∧ v = .int .u8 l := by
        intro u v x k l hu hx
        obtain ⟨y0, y1, n, rfl, _, h0, h1⟩ := trod_struct2 Tryd.underlying44 hu
        obtain ⟨n0, hc0, rfl, _⟩ := DataW.trod_int Tryd.underlying5 h0
        obtain ⟨n1, hc1, rfl, _⟩ := DataW.trod_int Tryd.underlying5 h1
        rw [cells5] at hc0 hc1
        simp at hc0 hc1 hx
        subst hc0 hc1
        exact ⟨by rw [hx.1], by rw [hx.2]⟩
      simp only [List.map_cons, List.map_nil, List.cons.injEq, and_true] at hxs
      obtain ⟨e0, e1, e2, e3⟩ := hxs
      obtain ⟨rfl, rfl⟩ := pair a0 a1 x0 _ _ (hf 0 (by omega)) e0.symm
      obtain ⟨rfl, rfl⟩ := pair a2 a3 x1 _ _ (hf 1 (by omega)) e1.symm
      obtain ⟨rfl, rfl⟩ := pair a4 a5 x2 _ _ (hf 2 (by omega)) e2.symm
      obtain ⟨rfl, rfl⟩ := pair a6 a7 x3 _ _ (hf 3 (by omega)) e3.symm
      rfl
theorem var_heap {P : Program} {W : World} {n : String} {g : Nat} {cs : Array Value} (hg : P.globalNamed n = some g) (h : W.var? P n = some cs) : ∃ t fr, W.heap[g]? = some (.cells cs t fr) := by
  unfold World.var? at h
  rw [hg] at h
  simp only [Option.bind_some] at h
  split at h
  · rename_i c t fr hh
    obtain rfl := Option.some.inj h
    exact ⟨t, fr, hh⟩
  · cases h
theorem laid_tables {W : World} (h : laidMetH Tryd.prog [("mlcore/lexer.signs", Rows.laid_mlcore_lexer_signs), ("mlcore/lexer.escapes", Rows.laid_mlcore_lexer_escapes)] W) : Laid W := by
  have h' : laidMet Tryd.prog [("mlcore/lexer.signs", Rows.laid_mlcore_lexer_signs), ("mlcore/lexer.escapes", Rows.laid_mlcore_lexer_escapes)] W := h
  obtain ⟨ps, ⟨g, t, cs, fuel, p, q, hg, ht, hv, hd, ⟨g2, t2, cs2, fuel2, p2, q2, hg2, ht2, hv2, hd2, _, _⟩, _⟩, _⟩ := h'
  obtain rfl := Option.some.inj (gSigns.symm.trans hg)
  obtain rfl := Option.some.inj (gSignsType.symm.trans ht)
  obtain rfl := Option.some.inj (gEsc.symm.trans hg2)
  obtain rfl := Option.some.inj (gEscType.symm.trans ht2)
  have e1 : cs.toList = Lx.signs.map fun l => Value.string { data := l.toArray } := cells_of_strs (ls := Lx.signs) Tryd.underlying59 Tryd.underlying9 cells9 cells59 hd
  have e2 : cs2.toList = escCells.toList := cells_of_esc hd2
  obtain ⟨ts, fs, hs⟩ := var_heap gSigns hv
  obtain ⟨te, fe, he⟩ := var_heap gEsc hv2
  refine ⟨⟨te, fe, ?_⟩, ⟨ts, fs, ?_⟩, ?_⟩
  · rw [he, show cs2 = escCells from Array.toList_inj.1 e2]
  · rw [hs, show cs = signCells from Array.toList_inj.1 (by rw [e1]; rfl)]
  · have := (Array.getElem?_eq_some_iff.1 hs).1
    omega
end Go.Proofs.YtapdhlfgakbebaaDoor
