/-
  A range over a function that was bound to its receiver, every round of which goes on: one law.
-/
import Derived.Test.YtfeopoamednidaaM4
import Derived.RangeFuncNested
import Derived.RangeFuncBound
import Derived.RangeFuncCalls
import Derived.RangeFuncLeaves
import Derived.RecoverIn
import Derived.Shelf.Abstract
import Derived.Shelf.RegionOpen
import Derived.OwnWalkIn
import Derived.TacticsInMore
import Derived.LoopNIn
import Derived.LoopIn
namespace Go.Proofs.Ytfeopoamednidaa
open Go.RowKit Go.Deep
theorem Kp.putObj {X : List Nat} (w : World) (k : Nat) (hk : k ∈ X) (o : Obj) : Kp X w (w.putObj k o) :=
  ⟨rfl, rfl, rfl, by simp, fun j _ hj => World.putObj_heap_other (fun e => hj (e ▸ hk))⟩
/-- What is kept of blocks that are no cells. -/
structure Bk (B : Nat) (W W' : World) : Prop where
  kept : ∀ k o, B ≤ k → o.isCells = false → W.heap[k]? = some o → W'.heap[k]? = some o
theorem range_bound {P : Program} {n : Nat} {g : Operand} {p : Tmp} {assign body : Code} {Q : Exit → Act → World → Prop} {a : Act} {w : World} {gf : Nat} {fa : Array Value} (hg : a.eval g = .func (.func gf) fa #[]) (eg : ∀ args w, (callFunc gf args).run P w = .ok (.enter gf args) w)
    (N : Nat) (enc : Nat → Value) (I : Nat → World → Prop) (A1 : Nat → Act)
    (h0 : ∀ W, Kp [] w W → I 0 W) (hI : ∀ i W W' k, w.heap.size ≤ k → (∃ o : Obj, W.heap[k]? = some o ∧ o.isCells = false) → Kp [k] W W' → I i W → I i W')
    (hiter : ∀ (l : Nat) (J : Nat → World → Prop) (W : World), (∀ i W, J i W → I i W) → (∀ i W, i < N → J i W → YieldAt Fence.wide (n - 1 - 1) P l #[enc i] W fun e W' => e = .returned (.bool true) ∧ J (i + 1) W') → J 0 W →
      CallsIn Fence.wide (n - 1) P gf (fa ++ #[.func (.yield l) #[] #[]]) W fun e W' => (∃ v, e = .returned v) ∧ J N W')
    (hassign : ∀ (l i : Nat) (W : World) (K : Act → World → Prop), K (A1 i) W → assign.wpIn (Fence.wide.inRound l) (n - 1 - 1) P (Exit.then K (fun _ _ _ => False)) { tmps := a.tmps.setIfInBounds p (enc i), defers := [] } W)
    (hbody : ∀ (l i : Nat) (W : World), w.heap.size ≤ l → i < N → I i W → (∃ r, W.heap[l]? = some (.loop r)) → body.wpIn (Fence.wide.inRound l) (n - 1 - 1) P (fun e _ W' => e = .normal ∧ I (i + 1) W' ∧ Bk w.heap.size W W') (A1 i) W)
    (hdone : ∀ (D : Nat) (W : World), w.heap.size ≤ D → I N W → W.heap[D]? = some (.deferred (some [])) → Q .normal { a with defers := { target := .collected D, args := #[] } :: a.defers } W) :
    (Code.rangeFunc g #[p] assign body).wpIn Fence.wide n P Q a w := by
  refine wpIn_rangeFunc ?_
  intro fn hfn
  have hent := run_enterLoop_outer (P := P) (w := w) fn a.tmps #[p] assign body
  obtain ⟨rd, hrd⟩ : ∃ rd : LoopState → Loop, rd = fun st => { state := st, pending := none, fn := fn, tmps := a.tmps, params := #[p], assign := assign, body := body, defers := w.heap.size } := ⟨_, rfl⟩
  have hdef : ∀ st, rd st = { state := st, pending := none, fn := fn, tmps := a.tmps, params := #[p], assign := assign, body := body, defers := w.heap.size } := fun st => by rw [hrd]
  have hK1 : Kp [] w ((w.alloc (.deferred (some []))).alloc (.loop (rd .ready))) := (Kp.alloc _ _ _).trans (Kp.alloc _ _ _)
  have hL1 : ((w.alloc (.deferred (some []))).alloc (.loop (rd .ready))).heap[w.heap.size + 1]? = some (.loop (rd .ready)) := by
    have := alloc_get (w.alloc (.deferred (some []))) (.loop (rd .ready))
    rwa [World.size_alloc] at this
  have hD1 : ((w.alloc (.deferred (some []))).alloc (.loop (rd .ready))).heap[w.heap.size]? = some (.deferred (some [])) := (Below.heap_alloc _ _ _ (by simp)).trans (alloc_get w _)
  rw [← hdef .ready] at hent
  generalize (w.alloc (.deferred (some []))).alloc (.loop (rd .ready)) = W1 at *
  refine ⟨w.heap.size + 1, [{ target := .collected w.heap.size, args := #[] }], W1, { target := .fn (.func gf) #[], args := fa ++ #[.func (.yield (w.heap.size + 1)) #[] #[]] }, W1, gf, fa ++ #[.func (.yield (w.heap.size + 1)) #[] #[]], W1, hent, ?_, fun _ _ => trivial, ?_, by simp [Fence.wide], ?_⟩
  · simp only [resolve, hg]
    simp [go_sem]
  · simp [invoke, go_sem, eg]
  · have key := hiter (w.heap.size + 1) (fun i W => I i W ∧ W.heap[w.heap.size + 1]? = some (.loop (rd .ready)) ∧ W.heap[w.heap.size]? = some (.deferred (some []))) W1 (fun i W h => h.1) ?_ ⟨h0 W1 hK1, hL1, hD1⟩
    · refine key.mono ?_
      rintro e W2 ⟨⟨v, rfl⟩, hi, hl, hd⟩
      have hend := run_endLoop (P := P) hl (by rw [hdef]; simp)
      refine ⟨none, _, by rw [hend, hdef], ?_⟩
      refine hdone w.heap.size _ (Nat.le_refl _) (hI _ W2 _ (w.heap.size + 1) (by omega) ⟨_, hl, rfl⟩ (Kp.putObj _ _ (by simp) _) hi) ?_
      rw [World.putObj_heap_other (by omega)]
      exact hd
    · rintro i W hiN ⟨hi, hl, hd⟩
      have hlt : w.heap.size + 1 < W.heap.size := (Array.getElem?_eq_some_iff.1 hl).1
      have hy := run_yield (P := P) (args := #[enc i]) hl (by rw [hdef]; rfl)
      have hz : ((rd .ready).params.zip #[enc i]).foldl (fun tmps (x : Tmp × Value) => tmps.setIfInBounds x.1 x.2) (rd .ready).tmps = a.tmps.setIfInBounds p (enc i) := by rw [hdef]; simp
      have ha : (rd .ready).assign = assign := by rw [hdef]
      have hbo : (rd .ready).body = body := by rw [hdef]
      refine ⟨_, _, _, _, hy, roundIn_of_wpIn (by trivial) ?_⟩
      rw [ha, hbo]
      show assign.wpIn _ _ P _ { tmps := ((rd .ready).params.zip #[enc i]).foldl (fun tmps (x : Tmp × Value) => tmps.setIfInBounds x.1 x.2) (rd .ready).tmps, defers := [] } W
      rw [hz]
      have hb2 : (W.putObj (w.heap.size + 1) (.loop (rd .busy))).heap[w.heap.size + 1]? = some (.loop (rd .busy)) := World.putObj_heap_same hlt
      refine hassign (w.heap.size + 1) i W _ ⟨_, run_beginRound hl (by rw [hdef]), ?_⟩
      have he : ({ rd LoopState.ready with state := LoopState.busy } : Loop) = rd .busy := by rw [hdef, hdef]
      rw [he]
      refine wpIn_mono (hbody (w.heap.size + 1) i _ (by omega) hiN (hI i W _ (w.heap.size + 1) (by omega) ⟨_, hl, rfl⟩ (Kp.putObj _ _ (by simp) _) hi) ⟨_, hb2⟩) ?_
      rintro e a3 W3 ⟨rfl, hi3, hk3⟩
      have hl3 := hk3.kept _ _ (by omega) rfl hb2
      have hd3 := hk3.kept _ _ (Nat.le_refl _) rfl ((World.putObj_heap_other (by omega)).trans hd)
      have hlt3 := (Array.getElem?_eq_some_iff.1 hl3).1
      refine ⟨_, _, run_endRound (P := P) none hl3, rfl, hI _ W3 _ (w.heap.size + 1) (by omega) ⟨_, hl3, rfl⟩ (Kp.putObj _ _ (by simp) _) hi3, ?_, ?_⟩
      · rw [World.putObj_heap_same hlt3]
        simp [hdef]
      · rw [World.putObj_heap_other (by omega)]
        exact hd3
end Go.Proofs.Ytfeopoamednidaa
