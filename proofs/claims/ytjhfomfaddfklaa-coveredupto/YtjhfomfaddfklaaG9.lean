/-
  THE LAW Covered, where what is read is of bulk at most 1048576: whatever the patterns, the value and the sort, the law answers true, and they read as before.
-/
import Derived.Test.YtjhfomfaddfklaaU31
import Derived.ProofKit
import Derived.OpenShut
import Derived.JoinedCond
import Derived.Carry
namespace Go.Proofs.Ytjhfomfaddfklaa.coveredUpto
open Go.ChangeShapes Go.WideShapes Go.ChangeAt Go.RowKit Go.Deep Go.Proofs.Ytjhfomfaddfklaa

theorem own : ownKnob Try.prog.godebug = none := by kernel_rfl
theorem laidOut : laidOutB Try.prog = true := by kernel_rfl

set_option maxHeartbeats 1600000 in
set_option maxRecDepth 100000 in
theorem contract (hU : UsOk 8) (H : Type) (enc : TypeId × Value → H) (W : World) (base : Nat) (args : Array Value) (ds gs : List (DataW H)) (before : List MemPlace)
    (hval : ∀ (j : Nat) t v, Try.f4.params[j]? = some t → args[j]? = some v → Value.okWide Try.prog W .any base t v)
    (hW : DataW.Whole enc Try.prog Try.f4.params.toList Rows.coveredSpec.vars false W args.toList ds gs before) (hk : Rows.uptoSmall H (ds ++ gs) = true) :
    Calls Try.prog 4 args W fun e W' => ∃ v, e = .returned v ∧ Rows.coveredSpec.post enc Try.prog Try.f4 false true false false W args v W' := by
  have hW' := hW
  obtain ⟨p, q, hA0, hV, rfl, hfz, hnd⟩ := hW
  have hA : DataW.TrodAll enc Try.prog W 0 (fun _ => true) true Try.f4.params.toList args.toList ds p := hA0
  rw [Try.params4] at hA hval
  obtain ⟨v0, v1, v2, v3, d0, d1, d2, d3, p0, p1, p2, p3, rfl, rfl, rfl, h0, h1, h2, h3⟩ := trodAll_four hA
  obtain ⟨rfl, rfl⟩ := trodVars_none hV
  obtain ⟨a0, len0, cap0, rfl⟩ := okWide_slice Try.underlying23 (hval 0 23 v0 rfl rfl)
  obtain ⟨cs1, rfl, _⟩ := okWide_struct Try.underlying26 (hval 1 26 v1 rfl rfl)
  obtain ⟨cs2, rfl, _⟩ := okWide_struct Try.underlying26 (hval 2 26 v2 rfl rfl)
  obtain ⟨sort, rfl⟩ := okWide_int Try.underlying3 (hval 3 3 v3 rfl rfl)
  clear hA0
  simp only [List.append_nil] at hW' hk
  have hlt0 : ∀ x ∈ p0, x.block < W.heap.size := fun x hx => hW'.lt x (by simp [hx])
  have hlt1 : ∀ x ∈ p1, x.block < W.heap.size := fun x hx => hW'.lt x (by simp [hx])
  have hlt2 : ∀ x ∈ p2, x.block < W.heap.size := fun x hx => hW'.lt x (by simp [hx])
  have hlt3 : ∀ x ∈ p3, x.block < W.heap.size := fun x hx => hW'.lt x (by simp [hx])
  have hargs : ∀ (W' : World), Below W.heap.size W W' → DataW.TrodAll enc Try.prog W' 0 (fun b => decide (b < W.heap.size)) true [23, 26, 26, 3] [.slice a0 len0 cap0, .agg cs1, .agg cs2, .int .i64 sort] [d0, d1, d2, d3] (p0 ++ (p1 ++ (p2 ++ p3))) :=
    fun W' hn => trodAll_mk4 (Below.trod laidOut (by kernel_rfl) (of_decide_eq_true (by kernel_rfl)) h0 hn hlt0) (Below.trod laidOut (by kernel_rfl) (of_decide_eq_true (by kernel_rfl)) h1 hn hlt1) (Below.trod laidOut (by kernel_rfl) (of_decide_eq_true (by kernel_rfl)) h2 hn hlt2) (Below.trod laidOut (by kernel_rfl) (of_decide_eq_true (by kernel_rfl)) h3 hn hlt3)
  obtain ⟨fu0, hf0⟩ := h0
  obtain ⟨fu1, hf1⟩ := h1
  obtain ⟨fu2, hf2⟩ := h2
  obtain ⟨fu3, hf3⟩ := h3
  obtain ⟨pq, cq, l, e0, hQ, hcq, hlow⟩ := open_row2 fu0 _ _ hf0
  obtain ⟨c1, T1, e1, hT1, hl1, hn1⟩ := open_pt2 fu1 _ _ hf1
  obtain ⟨c2, T2, e2, hT2, hl2, hn2⟩ := open_pt2 fu2 _ _ hf2
  obtain ⟨k3, e3, _, wf3⟩ := DataW.trod_int Try.underlying3 hf3
  have e0' : a0 = pq ∧ len0 = l.length ∧ cap0 = cq := by simpa [Value.cells] using e0
  have e1' : cs1 = #[.int .i64 c1.k, .int .i64 c1.n, .int .i64 c1.o, .int .i64 c1.a, .string c1.s, .slice c1.p c1.len c1.cap] := by
    apply Array.ext'
    simpa [Value.cells, PC.vals] using e1
  have e2' : cs2 = #[.int .i64 c2.k, .int .i64 c2.n, .int .i64 c2.o, .int .i64 c2.a, .string c2.s, .slice c2.p c2.len c2.cap] := by
    apply Array.ext'
    simpa [Value.cells, PC.vals] using e2
  have e3' : sort = k3 := by simpa [Value.cells] using e3
  have hb := of_decide_eq_true hk
  simp only [Rows.uptoBulkAll] at hb
  have hn1' : cntP T1 ≤ 2000000 := by
    have h : cntP T1 ≤ Rows.uptoBulk d1 := hn1
    omega
  have hlow' : ∀ y ∈ l, y.low = true ∧ cntP y ≤ 2000000 := fun y hy => by
    have h : cntP y ≤ Rows.uptoBulk d0 := (hlow y hy).2
    exact ⟨(hlow y hy).1, by omega⟩
  clear e0 e1 e2 e3
  subst e1'
  subst e2'
  obtain ⟨rfl, rfl, rfl⟩ := e0'
  subst e3'
  refine (covered_any hU W W l _ _ (Below.refl _ _) hQ hlow' c1 T1 hT1 ⟨hl1, hn1'⟩ c2 T2 hT2 hl2 sort (wf_ge wf3)).mono fun e W' ⟨he, hg⟩ => ?_
  subst he
  refine ⟨_, rfl, _, _, _, [], p0 ++ (p1 ++ (p2 ++ p3)), [], hW', ?_, ?_, ?_, hg.frame _, fun h => by cases h⟩
  · exact trodAll_cons_mk (shut_bool Try.underlying4 _) trodAll_mk0
  · exact hargs W' hg
  · rfl

set_option maxRecDepth 100000 in
theorem lifted (hU : UsOk 8) (os : Os) (started : os.Started) (H : Type) (enc : TypeId × Value → H) (F : Stop.Interp) :
    ReturnsInHanded {} Try.checked os 4 .any ((Rows.OpenSpec.upto Rows.coveredSpec).pre6 enc Try.prog Try.f4 Rows.coveredUptoRow.domain false) (((Rows.OpenSpec.upto Rows.coveredSpec).at F).post enc Try.prog Try.f4 false true false false) := by
  refine returnsInHanded_of_cond (C := Try.checked) (s := Rows.OpenSpec.upto Rows.coveredSpec) (k := Rows.uptoSmall) rfl own started (by kernel_rfl) Try.func4
    (OpenSpec.witness (enc := enc) (C := Try.checked) (s := Rows.OpenSpec.upto Rows.coveredSpec) (k := Rows.uptoSmall) rfl false ⟨#[], #[.slice none 0 0, PC.any.val, PC.any.val, .int .i64 0], []⟩ 8 (by kernel_rfl) (by kernel_rfl) (by kernel_rfl)
      (x := ([.nil, .agg [.lit (.int .i64 0), .lit (.int .i64 0), .lit (.int .i64 0), .lit (.int .i64 0), .lit (.string []), .nil], .agg [.lit (.int .i64 0), .lit (.int .i64 0), .lit (.int .i64 0), .lit (.int .i64 0), .lit (.string []), .nil], .lit (.int .i64 0)], [], [])) (by kernel_rfl) rfl (by kernel_rfl)) ?_
  intro W base args ds gs before hval hW _ hk _
  exact contract hU H enc W base args ds gs before hval hW hk

theorem proved (hU : UsOk 8) : Rows.CoveredUptoSaid :=
  OpenClaim.holds_of_cond 4 Try.f4 rfl rfl rfl rfl rfl rfl rfl ⟨rfl, rfl, rfl, rfl, rfl⟩ rfl rfl rfl rfl rfl (by kernel_rfl) Try.func4 (by kernel_rfl)
    (of_decide_eq_true (by kernel_rfl)) (by unfold Func.isWrapper; first | (rw [if_pos (by decide +kernel)]; kernel_rfl) | (rw [if_neg (by decide +kernel)]; exact ⟨rfl, rfl⟩))
    (fun os started H enc _ F => lifted hU os started H enc F)
end Go.Proofs.Ytjhfomfaddfklaa.coveredUpto
