/-
  THE LAW Heaps: whatever the number of cells and the script, the law answers true, and they read as before. No condition.
-/
import Derived.Test.YtfeopoamednidaaSB
import Derived.ProofKit
import Derived.OpenShut
import Derived.SizedLaws
import Derived.JoinedOf
import Derived.Carry
namespace Go.Proofs.Ytfeopoamednidaa.heapsFull
open Go.ChangeShapes Go.WideShapes Go.ChangeAt Go.RowKit Go.Deep Go.Proofs.Ytfeopoamednidaa

theorem own : ownKnob Try.prog.godebug = none := by kernel_rfl
theorem laidOut : laidOutB Try.prog = true := by kernel_rfl
theorem bytes38 : Try.prog.bytesOf 38 = 56 := by kernel_rfl

set_option maxHeartbeats 1600000 in
set_option maxRecDepth 100000 in
theorem lifted (os : Os) (started : os.Started) (H : Type) (enc : TypeId × Value → H) :
    ReturnsInHanded {} Try.checked os 3 .any (Rows.heapsSpec.pre6 enc Try.prog Try.f3 Rows.heapsRow.domain false) (Rows.heapsSpec.post enc Try.prog Try.f3 false true false false) := by
  refine returnsInHanded_of_change_sized (C := Try.checked) own started (by kernel_rfl) Try.func3
    (ChangeSpec.witness6 (enc := enc) (C := Try.checked) false ⟨#[], #[.int .i64 0, .slice none 0 0], []⟩ 8 (by kernel_rfl) (by kernel_rfl) (by kernel_rfl) (by kernel_rfl)) ?_
  intro W base args ds gs before hval0 hW _ hsz0 _
  have hsz : (DataW.weightsEach Try.prog (Try.f3.params.toList ++ Rows.heapsSpec.plain.varTypes Try.prog) (ds ++ gs)).all (· ≤ reachBytes) = true := hsz0
  clear hsz0
  have hval : ∀ (j : Nat) t v, Try.f3.params[j]? = some t → args[j]? = some v → Value.okWide Try.prog W .any base t v := hval0
  have hW' := hW
  obtain ⟨p, q, hA0, hV, rfl, hfz, hnd⟩ := hW
  have hA : DataW.TrodAll enc Try.prog W 0 (fun _ => true) true Try.f3.params.toList args.toList ds p := hA0
  rw [Try.params3] at hA hval hsz
  obtain ⟨v0, v1, d0, d1, p0, p1, rfl, rfl, rfl, h0, h1⟩ := trodAll_two hA
  obtain ⟨rfl, rfl⟩ := trodVars_none hV
  obtain ⟨n0, rfl⟩ := okWide_int Try.underlying3 (hval 0 3 v0 rfl rfl)
  obtain ⟨a1, len1, cap1, rfl⟩ := okWide_slice Try.underlying22 (hval 1 22 v1 rfl rfl)
  clear hA0 hval0
  simp only [List.append_nil] at hW'
  have hlt0 : ∀ x ∈ p0, x.block < W.heap.size := fun x hx => hW'.lt x (List.mem_append_left _ hx)
  have hlt1 : ∀ x ∈ p1, x.block < W.heap.size := fun x hx => hW'.lt x (List.mem_append_right _ hx)
  have hargs : ∀ (W' : World), Below W.heap.size W W' → DataW.TrodAll enc Try.prog W' 0 (fun b => decide (b < W.heap.size)) true [3, 22] [.int .i64 n0, .slice a1 len1 cap1] [d0, d1] (p0 ++ p1) :=
    fun W' hn => trodAll_mk2 (Below.trod laidOut (by kernel_rfl) (of_decide_eq_true (by kernel_rfl)) h0 hn hlt0) (Below.trod laidOut (by kernel_rfl) (of_decide_eq_true (by kernel_rfl)) h1 hn hlt1)
  obtain ⟨fu1, hf1⟩ := h1
  have hlen : len1 ≤ 3000000000000 := by
    have hr : reachBytes = 140737488351232 := rfl
    rcases DataW.trod_slice Try.underlying22 hf1 with ⟨hcs, hx⟩ | ⟨a, len, cap, elems, rest, n', hx, hcs, hxx, hb, hl, hmx, hel, hat, _, _⟩
    · have h3 : a1 = none ∧ len1 = 0 ∧ cap1 = 0 := by simpa [Value.cells] using hcs
      omega
    · have h3 : a1 = some a ∧ len1 = len ∧ cap1 = cap := by simpa [Value.cells] using hcs
      have hd : d1 = DataW.slice (List.map (fun x => x.fst) elems) (List.map (fun x => x.fst) rest) := (Prod.mk.inj hxx).1
      have hs := sized_slice hsz (j := 1) (t := 22) (elems := List.map (fun x => x.fst) elems) (spare := List.map (fun x => x.fst) rest) rfl (by rw [hd]; rfl) Try.underlying22
      rw [bytes38, hr, List.length_map, List.length_map, hel] at hs
      omega
  obtain ⟨pq, cq, l, e1, hQ⟩ := open_ops fu1 _ _ hf1
  have e1' : a1 = pq ∧ len1 = l.length ∧ cap1 = cq := by simpa [Value.cells] using e1
  clear e1
  obtain ⟨rfl, rfl, rfl⟩ := e1'
  refine (heaps_any W n0 _ _ l hlen hQ).mono fun e W' ⟨he, hg⟩ => ?_
  subst he
  refine ⟨_, rfl, _, _, _, [], p0 ++ p1, [], hW', ?_, ?_, ?_, hg.frame _, fun h => by cases h⟩
  · exact trodAll_cons_mk (shut_bool Try.underlying4 _) trodAll_mk0
  · exact hargs W' hg
  · rfl

theorem proved : Rows.HeapsSaid :=
  OpenClaim.holds_of_wide 3 Try.f3 rfl rfl rfl rfl rfl rfl rfl ⟨rfl, rfl, rfl, rfl, rfl⟩ rfl rfl rfl rfl rfl (by kernel_rfl) Try.func3 (by kernel_rfl)
    (of_decide_eq_true (by kernel_rfl)) (by unfold Func.isWrapper; first | (rw [if_pos (by decide +kernel)]; kernel_rfl) | (rw [if_neg (by decide +kernel)]; exact ⟨rfl, rfl⟩))
    (fun os started H enc _ => lifted os started H enc)
end Go.Proofs.Ytfeopoamednidaa.heapsFull
namespace Go.Proofs.Ytfeopoamednidaa
theorem heaps_holds : Rows.HeapsSaid := heapsFull.proved
end Go.Proofs.Ytfeopoamednidaa
