/-
  The program's layer matches: heads compared; a row put behind a line that is full.
-/
import Derived.Test.YtjhfomfaddfklaaV9
import Derived.Lib.AppendZerosOnto
import Derived.Laws.StructEq
namespace Go.Proofs.Ytjhfomfaddfklaa
open Go.RowKit Go.Deep Go.Shelf
theorem part59 : Try.prog.underlying 59 = some (.struct (Try.prog.fieldsOf 59)) := by kernel_rfl
theorem held59 : Try.prog.stoodInHeld 59 = false := by kernel_rfl
theorem guard59 : Try.prog.eqGuardType Try.prog.depth 59 = false := by kernel_rfl
def Hd.eqb (a b : Hd) : Bool := decide (a.k = b.k) && (decide (a.n = b.n) && (decide (a.s = b.s) && decide (a.m = b.m)))
section
set_option maxHeartbeats 4000000
set_option maxRecDepth 100000
theorem eq59 (ak an : Int) (as_ : ByteArray) (am : Nat) (bk bn : Int) (bs : ByteArray) (bm : Nat) (w : World) : (binOp .eql 59 (.agg #[.int .i64 ak, .int .i64 an, .string as_, .int .i64 am]) (.agg #[.int .i64 bk, .int .i64 bn, .string bs, .int .i64 bm])).run Try.prog w = .ok (.bool (Hd.eqb ⟨ak, an, as_, am⟩ ⟨bk, bn, bs, bm⟩)) w := by
  have u3 := Try.underlying3
  have u9 := Try.underlying9
  rw [run_eql_struct, show (10000 : Nat) = 9999 + 1 from rfl, run_equalIn_agg w 9999 59 _ _ part59 held59]
  simp only [Program.fieldsOf, Try.underlying59]
  go_simp
  unfold Hd.eqb
  by_cases h1 : ak = bk <;> by_cases h2 : an = bn <;> by_cases h3 : as_ = bs <;> by_cases h4 : am = bm <;> simp [h1, h2, h3, h4]
  · omega
  · exact fun h => h3 (bytes_ext (by rw [← Lib.toList_data, ← Lib.toList_data]; exact h))
  · exact fun h => absurd (bytes_ext (by rw [← Lib.toList_data, ← Lib.toList_data]; exact h)) h3
end
theorem exec_eq59 {ρ : Operand → Value} {o : Oper} {x y : Operand} (ho : o.op = .binOp .eql 59 x y 59) {ak an : Int} {as_ : ByteArray} {am : Nat} {bk bn : Int} {bs : ByteArray} {bm : Nat} (hx : ρ x = .agg #[.int .i64 ak, .int .i64 an, .string as_, .int .i64 am]) (hy : ρ y = .agg #[.int .i64 bk, .int .i64 bn, .string bs, .int .i64 bm]) {E : Bool} (hE : Hd.eqb ⟨ak, an, as_, am⟩ ⟨bk, bn, bs, bm⟩ = E) (w : World) : (execOp ρ o).run Try.prog w = .ok (.value (.bool E)) w := by
  have h1 := eq59 ak an as_ am bk bn bs bm w
  have h2 := run_eqGuard_agg (P := Try.prog) w .eql 59 x y #[.int .i64 ak, .int .i64 an, .string as_, .int .i64 am] #[.int .i64 bk, .int .i64 bn, .string bs, .int .i64 bm] guard59
  rw [hE] at h1
  unfold execOp
  simp only [ho, hx, hy, Sem.run_bind, h2, Result.andThen_ok, h1, Sem.run_pure]
/-- A line as a list of pointers. -/
theorem LineAt.list {wb w : World} {p : Option Addr} {l : List Pt} (h : LineAt wb w p l) : ∃ V : List (Option Addr), V.length = l.length ∧ (∀ i (h1 : i < V.length) (h2 : i < l.length), PrtIn wb (V[i]'h1) (l[i]'h2)) ∧ ∀ j u, (V.map Value.pointer)[j]? = some u → ∃ b o, p = some ⟨b, o, none⟩ ∧ w.cell? ⟨b, o + j, none⟩ = some u := by
  have key : ∀ i, i < l.length → ∃ v : Option Addr, (∀ (hi : i < l.length), PrtIn wb v (l[i]'hi)) ∧ ∃ b o, p = some ⟨b, o, none⟩ ∧ w.cell? ⟨b, o + i, none⟩ = some (.pointer v) := fun i hi => by
    obtain ⟨b, o, v, h1, h2, h3⟩ := h.get i hi
    exact ⟨v, fun _ => h3, b, o, h1, h2⟩
  obtain ⟨F, hF⟩ := choose_lt (α := Option Addr) key
  refine ⟨(List.range l.length).map F, by simp, fun i h1 h2 => ?_, fun j u hj => ?_⟩
  · have := (hF i h2).1 h2
    simpa using this
  · have hjl : j < l.length := by
      have := (List.getElem?_eq_some_iff.1 hj).1
      simpa using this
    obtain ⟨b, o, h1, h2⟩ := (hF j hjl).2
    have hu : u = .pointer (F j) := by
      simp [hjl] at hj
      exact hj.symm
    exact ⟨b, o, h1, by rw [hu]; exact h2⟩
/-- A new row of pointers is a line. -/
theorem line_new {wb w : World} (V : List (Option Addr)) (Z : Array Value) (l : List Pt) (hlen : V.length = l.length) (hm : l.length ≤ maxLen) (hV : ∀ i (h1 : i < V.length) (h2 : i < l.length), PrtIn wb (V[i]'h1) (l[i]'h2)) : LineAt wb (w.alloc (.cells ((V.map Value.pointer).toArray ++ Z) 55)) (some ⟨w.heap.size, 0, none⟩) l := by
  refine ⟨hm, fun i hi => ⟨w.heap.size, 0, V[i]'(by omega), rfl, ?_, hV i (by omega) hi⟩⟩
  have hb : (w.alloc (.cells ((V.map Value.pointer).toArray ++ Z) 55)).heap[w.heap.size]? = some (.cells ((V.map Value.pointer).toArray ++ Z) 55) := World.alloc_heap_new w _
  have hi2 : i < V.length := by omega
  have hget : ((V.map Value.pointer).toArray ++ Z)[i]? = some (.pointer (V[i]'hi2)) := by
    rw [Array.getElem?_append_left (by simpa using hi2)]
    simp [hi2]
  unfold World.cell?
  rw [hb]
  simpa using hget
theorem VV_app {wb : World} {V1 V2 : List (Option Addr)} {l1 l2 : List Pt} (e1 : V1.length = l1.length) (h1 : ∀ i (a : i < V1.length) (b : i < l1.length), PrtIn wb (V1[i]'a) (l1[i]'b)) (h2 : ∀ i (a : i < V2.length) (b : i < l2.length), PrtIn wb (V2[i]'a) (l2[i]'b)) : ∀ i (a : i < (V1 ++ V2).length) (b : i < (l1 ++ l2).length), PrtIn wb ((V1 ++ V2)[i]'a) ((l1 ++ l2)[i]'b) := by
  intro i a b
  by_cases hi : i < V1.length
  · rw [List.getElem_append_left hi, List.getElem_append_left (by omega)]
    exact h1 i hi (by omega)
  · rw [List.getElem_append_right (by omega), List.getElem_append_right (by omega)]
    have : i - V1.length = i - l1.length := by omega
    simp only [this]
    simp at a b
    exact h2 _ (by omega) (by omega)
inductive AppL (wb w : World) (q0 : Option Addr) (l : List Pt) (v : Value) (w' : World) : Prop
  | mk (q : Option Addr) (c : Nat) (hv : v = .slice q l.length c) (hc : l.length ≤ c) (hn : q = none → c = 0) (hR : LineAt wb w' q l) (hb : Below w.heap.size w w') (hq : q = q0 ∨ q = some ⟨w.heap.size, 0, none⟩) : AppL wb w q0 l v w'
theorem mapP_one (V : List (Option Addr)) : ∀ u ∈ V.map Value.pointer, u.oneCell' = true := by
  intro u hu
  obtain ⟨x, _, rfl⟩ := List.mem_map.1 hu
  rfl
/-- A line is put behind one that is full. -/
theorem run_append_line {wb w : World} {q : Option Addr} {r : List Pt} (hr : LineAt wb w q r) (hq : q = none → r.length = 0) {p : Option Addr} {ks : List Pt} {c : Nat} (hk : LineAt wb w p ks) (hl : r.length + ks.length ≤ 1000000) (ty : TypeId) :
    ∃ v w', (Builtin.append_ #[41, 41] ty #[.slice q r.length r.length, .slice p ks.length c]).run Try.prog w = .ok v w' ∧ AppL wb w q (r ++ ks) v w' := by
  obtain ⟨i0, hi0, hzz0, hzz1, hzz2⟩ := info_parts infos55
  by_cases hk0 : ks.length = 0
  · have : ks = [] := List.eq_nil_of_length_eq_zero hk0
    subst this
    refine ⟨.slice q r.length r.length, w, ?_, AppL.mk q r.length (by simp) (by simp) hq (by simpa using hr) (Below.refl _ _) (Or.inl rfl)⟩
    cases q with
    | none =>
      have h0 := hq rfl
      rw [h0]
      cases p <;> simp [Builtin.append_, run_underlying slice41, sizeOf, typeInfo, hi0, Builtin.lenOf, Builtin.firstCells, loadCells, loadCellsFrom]
    | some a => cases p <;> simp [Builtin.append_, run_underlying slice41, sizeOf, typeInfo, hi0, Builtin.lenOf, Builtin.firstCells, loadCells, loadCellsFrom, storeCells]
  · obtain ⟨V1, e1, g1, c1⟩ := hr.list
    obtain ⟨V2, e2, g2, c2⟩ := hk.list
    have hp : ∃ ad, p = some ad := by
      obtain ⟨b, o, v, h1, _⟩ := hk.get 0 (by omega)
      exact ⟨_, h1⟩
    obtain ⟨ad, rfl⟩ := hp
    have hsrc : Src Try.prog i0.size 41 (.slice (some ad) ks.length c) ks.length (V2.map Value.pointer) w := Src.ofSlice w slice41 ad ks.length c _ (by rw [hzz1]; simp [e2]) (fun j u hj => by
      obtain ⟨b, o, h1, h2⟩ := c2 j u hj
      cases h1
      rw [add_at]
      exact h2) (mapP_one V2)
    have hold : (Builtin.firstCells i0.size r.length (.slice q r.length r.length)).run Try.prog w.drew = .ok (V1.map Value.pointer).toArray w.drew := by
      cases q with
      | none =>
        have h0 := hq rfl
        have : V1 = [] := List.eq_nil_of_length_eq_zero (by omega)
        rw [this]
        exact run_firstCells_none w.drew _ _ _ _
      | some a =>
        refine run_firstCells_some w.drew _ _ _ _ _ _ (by rw [hzz1]; simp [e1]) (fun j u hj => ?_)
        obtain ⟨b, o, h1, h2⟩ := c1 j u hj
        cases h1
        rw [add_at]
        exact h2
    have hrun := run_append_grow_src (P := Try.prog) w 41 41 ty 55 i0 (.pointer none) slice41 hi0 hzz0 q r.length r.length (V1.map Value.pointer) hold _ ks.length _ hsrc (by omega) (by omega) (growslice_fits (by omega) (by rw [hzz2]; omega))
    refine ⟨_, _, hrun, ?_⟩
    have hz : ((V1.map Value.pointer) ++ (V2.map Value.pointer)) = (V1 ++ V2).map Value.pointer := by simp
    rw [hz]
    refine AppL.mk (some ⟨w.heap.size, 0, none⟩) (grownCap w (r.length + ks.length) r.length 55) (by simp) (by simpa using grownCap_ge w (r.length + ks.length) r.length 55) (fun h => by cases h) ?_ (((Below.refl _ w).drew).alloc (Nat.le_refl _) _) (Or.inr rfl)
    exact line_new (w := w.drew) (V1 ++ V2) _ (r ++ ks) (by simp [e1, e2]) (by simp [maxLen]; omega) (VV_app e1 g1 g2)
/-- Patterns that everything matches are put behind a line that is full. -/
theorem run_append_anys {wb w : World} {q : Option Addr} {r : List Pt} (hr : LineAt wb w q r) (hq : q = none → r.length = 0) (k : Nat) (hl : r.length + k ≤ 1000000) (ty : TypeId) :
    ∃ v w', (Builtin.append_ #[41, 3] ty #[.slice q r.length r.length, .int .i64 k]).run Try.prog w = .ok v w' ∧ AppL wb w q (r ++ List.replicate k Pt.any) v w' := by
  obtain ⟨i0, hi0, hzz0, hzz1, hzz2⟩ := info_parts infos55
  by_cases hk0 : k = 0
  · subst hk0
    have hw0 : IntKind.i64.wrap 0 = 0 := by rw [IntKind.wrap_i64]; omega
    refine ⟨.slice q r.length r.length, w, ?_, AppL.mk q r.length (by simp) (by simp) hq (by simpa using hr) (Below.refl _ _) (Or.inl rfl)⟩
    cases q with
    | none =>
      have h0 := hq rfl
      rw [h0]
      simp [Builtin.append_, run_underlying slice41, run_underlying Try.underlying3, sizeOf, typeInfo, hi0, asInt, asIntOf, hw0]
    | some a => simp [Builtin.append_, run_underlying slice41, run_underlying Try.underlying3, sizeOf, typeInfo, hi0, asInt, asIntOf, hw0, storeCells]
  · obtain ⟨V1, e1, g1, c1⟩ := hr.list
    have hold : (Builtin.firstCells i0.size r.length (.slice q r.length r.length)).run Try.prog w.drew = .ok (V1.map Value.pointer).toArray w.drew := by
      cases q with
      | none =>
        have h0 := hq rfl
        have : V1 = [] := List.eq_nil_of_length_eq_zero (by omega)
        rw [this]
        exact run_firstCells_none w.drew _ _ _ _
      | some a =>
        refine run_firstCells_some w.drew _ _ _ _ _ _ (by rw [hzz1]; simp [e1]) (fun j u hj => ?_)
        obtain ⟨b, o, h1, h2⟩ := c1 j u hj
        cases h1
        rw [add_at]
        exact h2
    have hrun := Lib.run_append_grow_zeros (P := Try.prog) w 41 3 ty 55 i0 (.pointer none) .i64 .i64 slice41 Try.underlying3 hi0 hzz0 q r.length r.length (V1.map Value.pointer) hold k (by omega) (by rw [hzz1]; omega) (by omega) (by omega) (by rw [hzz2]; omega) (growslice_fits (by omega) (by rw [hzz2]; omega))
    refine ⟨_, _, hrun, ?_⟩
    have hz : ((V1.map Value.pointer).toArray ++ Builtin.zeroCells (Value.pointer none).cells k) = ((V1 ++ List.replicate k none).map Value.pointer).toArray := by
      apply Array.ext'
      have hcs : (Value.pointer none).cells = #[Value.pointer none] := rfl
      simp only [Builtin.zeroCells, hcs]
      simp
      apply List.ext_getElem
      · simp
      · intro i h1 h2
        simp [Nat.mod_one]
    rw [hz]
    refine AppL.mk (some ⟨w.heap.size, 0, none⟩) (grownCap w (r.length + k) r.length 55) (by simp) (by simpa using grownCap_ge w (r.length + k) r.length 55) (fun h => by cases h) ?_ (((Below.refl _ w).drew).alloc (Nat.le_refl _) _) (Or.inr rfl)
    exact line_new (w := w.drew) (V1 ++ List.replicate k none) _ (r ++ List.replicate k Pt.any) (by simp [e1]) (by simp [maxLen]; omega) (VV_app e1 g1 (fun i a b => by simp; exact PrtIn.any _ rfl))
end Go.Proofs.Ytjhfomfaddfklaa
