/-
  A region that draws its order within a round of a loop over an iterator: walked as anywhere.
-/
import Derived.Test.YtfeopoamednidaaRegL
import Derived.Test.YtfeopoamednidaaM5
namespace Go.Proofs.Ytfeopoamednidaa
open Go.RowKit Go.Deep
def noDefer (ops : Array Oper) : Bool := ops.all fun o => match o.op with
  | .defer _ => false
  | _ => true
theorem noDefer_spec {ops : Array Oper} (h : noDefer ops = true) {i : Nat} {o : Oper} (hi : ops[i]? = some o) : ∀ c, o.op ≠ .defer c := by
  intro c hc
  unfold noDefer at h
  rw [Array.all_eq_true] at h
  obtain ⟨hlt, he⟩ := Array.getElem?_eq_some_iff.1 hi
  have := h i hlt
  rw [he, hc] at this
  cases this
theorem op_round {r n : Nat} {P : Program} {o : Oper} {a : Act} {w : World} {K : Act → World → Prop} {Q : Exit → Act → World → Prop} (hd : ∀ c, o.op ≠ .defer c) (h : o.wp P a w K Q) : o.wpIn (Fence.wide.inRound r) n P a w K Q := by
  refine ⟨fun _ _ => trivial, ?_⟩
  rw [Oper.semAt_eq _ _ _ hd]
  unfold Oper.wp at h
  generalize (execOp a.eval o).run P w = res at h
  cases res with
  | ok x w' =>
    cases x with
    | enter f args => exact ⟨(fun h0 => by cases h0), CallsIn.inRound r (callsIn_wide.2 h)⟩
    | row row args => exact ⟨(fun h0 => by cases h0), fun c cs _ => let ⟨v, w1, q, s⟩ := h c cs; ⟨v, w1, q, stepsIn_wide.2 s⟩⟩
    | round l f tmps assign body => exact h.elim
    | _ => exact h
  | halt x w' => cases x <;> exact h
theorem any_round {r n : Nat} {P : Program} {md : Region.Mode} {ops : Array Oper} {Q : Exit → Act → World → Prop} (hd : noDefer ops = true) (hL : ¬ LetsOut Q) : ∀ (fuel : Nat) (listed : Array Bool) (a : Act) (w : World), wpAny P md ops Q fuel listed a w → wpAnyIn (Fence.wide.inRound r) n P md ops Q fuel listed a w
  | 0, _, _, _, h => h
  | fuel + 1, listed, a, w, h => ⟨h.1, fun i hi => by
    have hh := wpOp_mono (fun a' w' h' => any_round (r := r) (n := n) hd hL fuel _ a' w' h') (h.2 i hi)
    unfold wpOp at hh
    unfold wpOpIn
    cases ho : ops[i]? with
    | none => simpa [ho] using hh
    | some o =>
      simp only [ho] at hh ⊢
      split
      · rename_i hw
        rw [if_pos hw] at hh
        rcases hh with hh | hh
        · exact op_round (noDefer_spec hd ho) hh
        · exact absurd hh.2 hL
      · rename_i hw
        rw [if_neg hw] at hh
        exact ⟨fun _ _ => trivial, hh⟩⟩
/-- A region that draws its order, in a round. -/
theorem region_round {r n : Nat} {P : Program} {Q : Exit → Act → World → Prop} {C : World → Prop} {id : Nat} {a : Act} {w : World} {l : List Oper} (hm : P.follows .mixedOrders = true) (hd : noDefer l.toArray = true) (hL : ¬ LetsOut Q) (h : anyIn P .any l.toArray Q C l.length (Array.replicate l.length false) a w.drew) : (Code.region id l.toArray true).wpIn (Fence.wide.inRound r) n P Q a w := by
  refine wpIn_region_any hm ?_
  have := any_round (r := r) (n := n) hd hL _ _ _ _ (anyIn_any _ _ _ _ h)
  simpa using this
/-- The same, where its last operation stores into what is read. -/
theorem region_roundL {r n : Nat} {P : Program} {Q : Exit → Act → World → Prop} {C : World → Prop} {m : Nat} {id : Nat} {a : Act} {w : World} {l : List Oper} (hm : P.follows .mixedOrders = true) (hd : noDefer l.toArray = true) (hL : ¬ LetsOut Q) (h : anyL P .any l.toArray Q C m l.length (Array.replicate l.length false) a w.drew) : (Code.region id l.toArray true).wpIn (Fence.wide.inRound r) n P Q a w := by
  refine wpIn_region_any hm ?_
  have := any_round (r := r) (n := n) hd hL _ _ _ _ (anyL_any _ _ _ _ h)
  simpa using this
end Go.Proofs.Ytfeopoamednidaa
