/-
  Regions that draw their order and whose last operation stores: the class of worlds need hold only ahead of it.
-/
import Derived.Test.YtfeopoamednidaaReg
namespace Go.Proofs.Ytfeopoamednidaa
open Go.RowKit Go.Deep
section
variable {P : Program} {ops : Array Oper} {Q : Exit → Act → World → Prop} {md : Region.Mode} {C : World → Prop} {m : Nat}
/-- Whatever order is taken from here on; until operation m is done the world is of the class. -/
def anyL (P : Program) (md : Region.Mode) (ops : Array Oper) (Q : Exit → Act → World → Prop) (C : World → Prop) (m : Nat) : Nat → Array Bool → Act → World → Prop
  | 0, listed, a, w => (listed.getD m true = false → C w) ∧ Region.ready md ops listed = [] ∧ Q .normal a w
  | n + 1, listed, a, w => (listed.getD m true = false → C w) ∧ (Region.ready md ops listed = [] → Q .normal a w) ∧ ∀ i ∈ Region.ready md ops listed, wpOp P ops Q i (anyL P md ops Q C m n (listed.setIfInBounds i true)) a w
theorem anyL_any : ∀ (n : Nat) (listed : Array Bool) (a : Act) (w : World), anyL P md ops Q C m n listed a w → wpAny P md ops Q n listed a w
  | 0, _, _, _, h => h.2
  | n + 1, _, _, _, h => ⟨h.2.1, fun i hi => wpOp_mono (fun a' w' h' => anyL_any n _ a' w' h') (h.2.2 i hi)⟩
theorem anyL_cls {n : Nat} {listed : Array Bool} {a : Act} {w : World} (h : anyL P md ops Q C m n listed a w) (hm : listed.getD m true = false) : C w := by
  cases n with
  | zero => exact h.1 hm
  | succ n => exact h.1 hm
/-- Operation m waits for operation i. -/
def waits (md : Region.Mode) (ops : Array Oper) (m i : Nat) : Bool := match ops[m]? with
  | some o => o.after.any fun e => Region.binds md e && (e.on == i)
  | none => false
theorem waits_spec {i : Nat} {om : Oper} (h : waits md ops m i = true) (hm : ops[m]? = some om) : ∃ e ∈ om.after, Region.binds md e = true ∧ e.on = i := by
  unfold waits at h
  rw [hm] at h
  simp only [Array.any_eq_true, Bool.and_eq_true, beq_iff_eq] at h
  obtain ⟨k, hk, h1, h2⟩ := h
  exact ⟨om.after[k], Array.getElem_mem hk, h1, h2⟩
theorem anyL_first {i : Nat} {oi : Oper} {v : Value} (hi : ops[i]? = some oi) (hsel : ∀ (j : Nat) (o : Oper) cs b, ops[j]? = some o → o.op ≠ .select cs b) (hQ : ∀ c a w, Q (.panic c) (a.put oi.dst v) w → Q (.panic c) a w) :
    ∀ (n : Nat) (listed : Array Bool) (a : Act) (w : World), (∀ j oj, ops[j]? = some oj → j ≠ i → listed.getD j true = false → (∀ e ∈ oj.after, Region.binds md e = true → e.on ≠ i) → oi.apart ops oj = true) →
      waits md ops m i = true → listed.getD m true = false → m ≠ i → i ∈ Region.ready md ops listed → GivesIn P ops C oi v a → anyL P md ops Q C m n (listed.setIfInBounds i true) (a.put oi.dst v) w → anyL P md ops Q C m (n + 1) listed a w
  | n, listed, a, w, hfree, hwt, hml, hmi, hr, hy, H => by
    have hC : C w := anyL_cls H (by rw [getD_set_ne true (Ne.symm hmi)]; exact hml)
    refine ⟨fun _ => hC, fun h => (by rw [h] at hr; cases hr), fun j hj => ?_⟩
    by_cases hji : j = i
    · subst hji
      exact hy.op hi hC H
    · obtain ⟨hjun, oj, hoj, hall⟩ := mem_ready.1 hj
      have hnot : ∀ e ∈ oj.after, Region.binds md e = true → e.on ≠ i := fun e he hb heq => by
        have k1 := hall e he hb
        have k0 := (mem_ready.1 hr).1
        rw [heq] at k1
        rw [Array.getD_eq_getD_getElem?] at k0 k1
        cases hx : listed[i]? with
        | none => rw [hx] at k1; cases k1
        | some x => rw [hx] at k0 k1; simp only [Option.getD_some] at k0 k1; rw [k0] at k1; cases k1
      have hjm : j ≠ m := fun e => by
        subst e
        obtain ⟨e, he, hb, ho⟩ := waits_spec hwt hoj
        exact hnot e he hb ho
      match n, H with
      | 0, H =>
        have := ready_mono hj hji
        rw [H.2.1] at this
        cases this
      | n + 1, H =>
        have h2 := op_swap hoj (hfree j oj hoj hji hjun hnot) (fun cs b => hsel i oi cs b hi) (fun cs b => hsel j oj cs b hoj) hQ hy (H.2.2 j (ready_mono hj hji))
        refine wpOp_mono (fun a' w' h3 => anyL_first hi hsel hQ n (listed.setIfInBounds j true) a' w' ?_ hwt (by rw [getD_set_ne true hjm]; exact hml) hmi (ready_mono hr (Ne.symm hji)) h3.1 ?_) h2
        · intro k ok hk hki hun hno
          refine hfree k ok hk hki ?_ hno
          by_cases hjk : j = k
          · subst hjk
            exact hjun
          · rwa [getD_set_ne true hjk] at hun
        · rw [Array.setIfInBounds_comm _ _ hji]
          exact h3.2
/-- What only reads is taken first. -/
theorem anyL_take {i : Nat} {oi : Oper} {v : Value} {n : Nat} {listed : Array Bool} {a : Act} {w : World} (hi : ops[i]? = some oi) (hs : Region.noSelect ops = true) (hf : Region.free md ops listed i = true) (hr : (Region.ready md ops listed).contains i = true) (hwt : (waits md ops m i && !(listed.getD m true) && (m != i)) = true)
    (hQ : ∀ c a w, Q (.panic c) (a.put oi.dst v) w → Q (.panic c) a w) (hy : GivesIn P ops C oi v a) (h : anyL P md ops Q C m n (listed.setIfInBounds i true) (a.put oi.dst v) w) : anyL P md ops Q C m (n + 1) listed a w :=
  anyL_first hi (Region.noSelect_spec hs) hQ n listed a w (Region.free_spec hi hf) (by simp at hwt; exact hwt.1.1) (by simpa using (show _ ∧ _ from by simp at hwt; exact hwt.1).2) (by simp at hwt; exact hwt.2) (by simpa using hr) hy h
theorem anyL_read {i : Nat} {oi : Oper} {n : Nat} {listed : Array Bool} {a : Act} {w : World} (hi : ops[i]? = some oi) (hs : Region.noSelect ops = true) (hf : Region.free md ops listed i = true) (hr : (Region.ready md ops listed).contains i = true) (hwt : (waits md ops m i && !(listed.getD m true) && (m != i)) = true)
    (hQ : ∀ v c a w, Q (.panic c) (a.put oi.dst v) w → Q (.panic c) a w) (h : ∃ v, GivesIn P ops C oi v a ∧ anyL P md ops Q C m n (listed.setIfInBounds i true) (a.put oi.dst v) w) : anyL P md ops Q C m (n + 1) listed a w := by
  obtain ⟨v, h1, h2⟩ := h
  exact anyL_take hi hs hf hr hwt (hQ v) h1 h2
/-- What is left is gone through. -/
theorem anyL_all {rs : List Nat} {n : Nat} {listed : Array Bool} {a : Act} {w : World} (hC : listed.getD m true = false → C w) (hr : Region.ready md ops listed = rs) (hne : rs ≠ []) (h : ∀ i ∈ rs, wpOp P ops Q i (anyL P md ops Q C m n (listed.setIfInBounds i true)) a w) : anyL P md ops Q C m (n + 1) listed a w :=
  ⟨hC, fun h0 => absurd (hr ▸ h0) hne, hr ▸ h⟩
/-- One operation, what follows behind a variable. -/
theorem anyL_op {i : Nat} {o : Oper} {n : Nat} {listed : Array Bool} {a : Act} {w : World} (hi : ops[i]? = some o) (h : ∀ K : Act → World → Prop, (∀ a w, anyL P md ops Q C m n (listed.setIfInBounds i true) a w → K a w) → if Region.wanted o (yielded ops a.tmps) then o.wp P a w K Q else K (a.put o.dst undef) w) : wpOp P ops Q i (anyL P md ops Q C m n (listed.setIfInBounds i true)) a w := by
  have := h _ (fun _ _ h => h)
  unfold wpOp
  simp only [hi]
  split
  · rename_i hw
    rw [if_pos hw] at this
    exact .inl this
  · rename_i hw
    rwa [if_neg hw] at this
theorem anyL_one {i : Nat} {o : Oper} {n : Nat} {listed : Array Bool} {a : Act} {w : World} (hC : C w) (hi : ops[i]? = some o) (hr : Region.ready md ops listed = [i]) (h : ∀ K : Act → World → Prop, (∀ a w, anyL P md ops Q C m n (listed.setIfInBounds i true) a w → K a w) → if Region.wanted o (yielded ops a.tmps) then o.wp P a w K Q else K (a.put o.dst undef) w) : anyL P md ops Q C m (n + 1) listed a w :=
  anyL_all (fun _ => hC) hr (by simp) (fun j hj => by
    obtain rfl : j = i := by simpa using hj
    exact anyL_op hi h)
theorem anyL_two {i j : Nat} {o o' : Oper} {n : Nat} {listed : Array Bool} {a : Act} {w : World} (hC : C w) (hi : ops[i]? = some o) (hj : ops[j]? = some o') (hr : Region.ready md ops listed = [i, j]) (h : ∀ K : Act → World → Prop, (∀ a w, anyL P md ops Q C m n (listed.setIfInBounds i true) a w → K a w) → if Region.wanted o (yielded ops a.tmps) then o.wp P a w K Q else K (a.put o.dst undef) w)
    (h' : ∀ K : Act → World → Prop, (∀ a w, anyL P md ops Q C m n (listed.setIfInBounds j true) a w → K a w) → if Region.wanted o' (yielded ops a.tmps) then o'.wp P a w K Q else K (a.put o'.dst undef) w) : anyL P md ops Q C m (n + 1) listed a w :=
  anyL_all (fun _ => hC) hr (by simp) (fun k hk => by
    have : k = i ∨ k = j := by simpa using hk
    rcases this with rfl | rfl
    · exact anyL_op hi h
    · exact anyL_op hj h')
theorem anyL_done {listed : Array Bool} {a : Act} {w : World} {n : Nat} (hC : listed.getD m true = true) (hr : Region.ready md ops listed = []) (h : Q .normal a w) : anyL P md ops Q C m n listed a w := by
  cases n with
  | zero => exact ⟨fun e => (by rw [hC] at e; cases e), hr, h⟩
  | succ n => exact ⟨fun e => (by rw [hC] at e; cases e), fun _ => h, by rw [hr]; simp⟩
/-- A region that draws its order, and stores at its end. -/
theorem region_last {id : Nat} {a : Act} {w : World} {l : List Oper} (m : Nat) (hm : P.follows .mixedOrders = true) (h : anyL P .any l.toArray Q C m l.length (Array.replicate l.length false) a w.drew) : (Code.region id l.toArray true).wp P Q a w := by
  refine wp_region_any hm ?_
  have := anyL_any _ _ _ _ h
  simpa using this
end
end Go.Proofs.Ytfeopoamednidaa
