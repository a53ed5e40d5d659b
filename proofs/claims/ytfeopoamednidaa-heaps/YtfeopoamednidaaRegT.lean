/-
  Regions that draw their order: what one operation waits for by way of others.
-/
import Derived.Test.YtfeopoamednidaaRegL
namespace Go.Proofs.Ytfeopoamednidaa
open Go.RowKit Go.Deep
section
variable {P : Program} {ops : Array Oper} {Q : Exit → Act → World → Prop} {md : Region.Mode} {C : World → Prop} {m : Nat}
/-- Operation m waits for operation i, maybe by way of others. -/
inductive Before (md : Region.Mode) (ops : Array Oper) : Nat → Nat → Prop
  | one (m i : Nat) (h : waits md ops m i = true) : Before md ops m i
  | way (m k i : Nat) (h : waits md ops m k = true) (h2 : Before md ops k i) : Before md ops m i
/-- What is listed has all listed that it waits for. -/
def closedUp (md : Region.Mode) (ops : Array Oper) (listed : Array Bool) : Prop := ∀ k o, ops[k]? = some o → listed.getD k false = true → ∀ e ∈ o.after, Region.binds md e = true → listed.getD e.on false = true
theorem getD_set_false (l : Array Bool) (j k : Nat) : (l.setIfInBounds j true).getD k false = true ↔ l.getD k false = true ∨ (k = j ∧ j < l.size) := by
  rw [Array.getD_eq_getD_getElem?, Array.getD_eq_getD_getElem?, Array.getElem?_setIfInBounds]
  by_cases h : j = k
  · subst h
    by_cases h2 : j < l.size
    · simp [h2]
    · simp [h2]
  · rw [if_neg h]
    simp [Ne.symm h]
theorem closedUp.set {listed : Array Bool} (h : closedUp md ops listed) {j : Nat} (hj : j ∈ Region.ready md ops listed) : closedUp md ops (listed.setIfInBounds j true) := by
  intro k o hk hl e he hb
  obtain ⟨_, oj, hoj, hall⟩ := mem_ready.1 hj
  rw [getD_set_false] at hl ⊢
  rcases hl with hl | ⟨rfl, _⟩
  · exact Or.inl (h k o hk hl e he hb)
  · rw [hoj] at hk
    cases hk
    exact Or.inl (hall e he hb)
theorem not_both {listed : Array Bool} {i : Nat} (h0 : listed.getD i true = false) (h1 : listed.getD i false = true) : False := by
  rw [Array.getD_eq_getD_getElem?] at h0 h1
  cases hx : listed[i]? with
  | none => rw [hx] at h1; cases h1
  | some x => rw [hx] at h0 h1; simp only [Option.getD_some] at h0 h1; rw [h0] at h1; cases h1
theorem Before.listed {i : Nat} (h : Before md ops m i) {listed : Array Bool} (hc : closedUp md ops listed) {om : Oper} (hm : ops[m]? = some om) (hall : ∀ e ∈ om.after, Region.binds md e = true → listed.getD e.on false = true) : listed.getD i false = true := by
  induction h generalizing om with
  | one m i h =>
    obtain ⟨e, he, hb, ho⟩ := waits_spec h hm
    rw [← ho]
    exact hall e he hb
  | way m k i h h2 ih =>
    obtain ⟨e, he, hb, ho⟩ := waits_spec h hm
    have hk := hall e he hb
    rw [ho] at hk
    cases hok : ops[k]? with
    | none =>
      cases h2 with
      | one _ _ h => unfold waits at h; rw [hok] at h; cases h
      | way _ _ _ h _ => unfold waits at h; rw [hok] at h; cases h
    | some ok => exact ih hok (fun e he hb => hc k ok hok hk e he hb)
theorem Before.not_ready {i : Nat} (h : Before md ops m i) {listed : Array Bool} (hc : closedUp md ops listed) (hi : listed.getD i true = false) (hm : m ∈ Region.ready md ops listed) : False := by
  obtain ⟨_, om, hom, hall⟩ := mem_ready.1 hm
  exact not_both hi (h.listed hc hom hall)
theorem anyL_firstT {i : Nat} {oi : Oper} {v : Value} (hi : ops[i]? = some oi) (hsel : ∀ (j : Nat) (o : Oper) cs b, ops[j]? = some o → o.op ≠ .select cs b) (hQ : ∀ c a w, Q (.panic c) (a.put oi.dst v) w → Q (.panic c) a w) :
    ∀ (n : Nat) (listed : Array Bool) (a : Act) (w : World), (∀ j oj, ops[j]? = some oj → j ≠ i → listed.getD j true = false → (∀ e ∈ oj.after, Region.binds md e = true → e.on ≠ i) → oi.apart ops oj = true) →
      Before md ops m i → closedUp md ops listed → listed.getD m true = false → m ≠ i → i ∈ Region.ready md ops listed → GivesIn P ops C oi v a → anyL P md ops Q C m n (listed.setIfInBounds i true) (a.put oi.dst v) w → anyL P md ops Q C m (n + 1) listed a w
  | n, listed, a, w, hfree, hwt, hcu, hml, hmi, hr, hy, H => by
    have hC : C w := anyL_cls H (by rw [getD_set_ne true (Ne.symm hmi)]; exact hml)
    refine ⟨fun _ => hC, fun h => (by rw [h] at hr; cases hr), fun j hj => ?_⟩
    by_cases hji : j = i
    · subst hji
      exact hy.op hi hC H
    · obtain ⟨hjun, oj, hoj, hall⟩ := mem_ready.1 hj
      have hnot : ∀ e ∈ oj.after, Region.binds md e = true → e.on ≠ i := fun e he hb heq => by
        have k1 := hall e he hb
        have k0 := (mem_ready.1 hr).1
        rw [heq] at k1
        rw [Array.getD_eq_getD_getElem?] at k0 k1
        cases hx : listed[i]? with
        | none => rw [hx] at k1; cases k1
        | some x => rw [hx] at k0 k1; simp only [Option.getD_some] at k0 k1; rw [k0] at k1; cases k1
      have hjm : j ≠ m := fun e => by
        subst e
        exact hwt.not_ready hcu (mem_ready.1 hr).1 hj
      match n, H with
      | 0, H =>
        have := ready_mono hj hji
        rw [H.2.1] at this
        cases this
      | n + 1, H =>
        have h2 := op_swap hoj (hfree j oj hoj hji hjun hnot) (fun cs b => hsel i oi cs b hi) (fun cs b => hsel j oj cs b hoj) hQ hy (H.2.2 j (ready_mono hj hji))
        refine wpOp_mono (fun a' w' h3 => anyL_firstT hi hsel hQ n (listed.setIfInBounds j true) a' w' ?_ hwt (hcu.set hj) (by rw [getD_set_ne true hjm]; exact hml) hmi (ready_mono hr (Ne.symm hji)) h3.1 ?_) h2
        · intro k ok hk hki hun hno
          refine hfree k ok hk hki ?_ hno
          by_cases hjk : j = k
          · subst hjk
            exact hjun
          · rwa [getD_set_ne true hjk] at hun
        · rw [Array.setIfInBounds_comm _ _ hji]
          exact h3.2
/-- The same, reckoned. -/
def waitsT (md : Region.Mode) (ops : Array Oper) : Nat → Nat → Nat → Bool
  | 0, m, i => waits md ops m i
  | f + 1, m, i => waits md ops m i || (List.range ops.size).any fun k => waits md ops m k && waitsT md ops f k i
theorem waitsT_spec : ∀ (f m i : Nat), waitsT md ops f m i = true → Before md ops m i
  | 0, m, i, h => Before.one m i h
  | f + 1, m, i, h => by
    unfold waitsT at h
    rw [Bool.or_eq_true] at h
    rcases h with h | h
    · exact Before.one m i h
    · obtain ⟨k, _, hk⟩ := List.any_eq_true.1 h
      rw [Bool.and_eq_true] at hk
      exact Before.way m k i hk.1 (waitsT_spec f k i hk.2)
def closedB (md : Region.Mode) (ops : Array Oper) (listed : Array Bool) : Bool := (List.range ops.size).all fun k => !(listed.getD k false) || match ops[k]? with
  | some o => o.after.all fun e => !(Region.binds md e) || listed.getD e.on false
  | none => true
theorem closedB_spec {listed : Array Bool} (h : closedB md ops listed = true) : closedUp md ops listed := by
  intro k o hk hl e he hb
  unfold closedB at h
  have hlt : k < ops.size := (Array.getElem?_eq_some_iff.1 hk).1
  have := List.all_eq_true.1 h k (List.mem_range.2 hlt)
  rw [hl, hk] at this
  simp only [Bool.not_true, Bool.false_or] at this
  have h2 := Array.all_eq_true_iff_forall_mem.1 this e he
  rw [hb] at h2
  simpa using h2
/-- What only reads, and comes ahead of operation m, is taken first. -/
theorem anyL_readT (f : Nat) {i : Nat} {oi : Oper} {n : Nat} {listed : Array Bool} {a : Act} {w : World} (hi : ops[i]? = some oi) (hs : Region.noSelect ops = true) (hf : Region.free md ops listed i = true) (hr : (Region.ready md ops listed).contains i = true) (hwt : (waitsT md ops f m i && closedB md ops listed && !(listed.getD m true) && (m != i)) = true)
    (hQ : ∀ v c a w, Q (.panic c) (a.put oi.dst v) w → Q (.panic c) a w) (h : ∃ v, GivesIn P ops C oi v a ∧ anyL P md ops Q C m n (listed.setIfInBounds i true) (a.put oi.dst v) w) : anyL P md ops Q C m (n + 1) listed a w := by
  obtain ⟨v, h1, h2⟩ := h
  rw [Bool.and_eq_true, Bool.and_eq_true, Bool.and_eq_true] at hwt
  obtain ⟨⟨⟨k1, k2⟩, k3⟩, k4⟩ := hwt
  exact anyL_firstT hi (Region.noSelect_spec hs) (hQ v) n listed a w (Region.free_spec hi hf) (waitsT_spec f m i k1) (closedB_spec k2) (by simpa using k3) (by simpa using k4) (by simpa using hr) h1 h2
theorem anyL_firstP {i : Nat} {oi : Oper} {v : Value} (hi : ops[i]? = some oi) (hsel : ∀ (j : Nat) (o : Oper) cs b, ops[j]? = some o → o.op ≠ .select cs b) (hQ : ∀ c a w, Q (.panic c) (a.put oi.dst v) w → Q (.panic c) a w) :
    ∀ (n : Nat) (listed : Array Bool) (a : Act) (w : World), (∀ j oj, ops[j]? = some oj → j ≠ i → listed.getD j true = false → (∀ e ∈ oj.after, Region.binds md e = true → e.on ≠ i) → oi.apart ops oj = true) →
      m ≠ i → i ∈ Region.ready md ops listed → GivesIn P ops (fun _ => True) oi v a → anyL P md ops Q C m n (listed.setIfInBounds i true) (a.put oi.dst v) w → anyL P md ops Q C m (n + 1) listed a w
  | n, listed, a, w, hfree, hmi, hr, hy, H => by
    refine ⟨fun hml => anyL_cls H (by rw [getD_set_ne true (Ne.symm hmi)]; exact hml), fun h => (by rw [h] at hr; cases hr), fun j hj => ?_⟩
    by_cases hji : j = i
    · subst hji
      exact hy.op hi trivial H
    · obtain ⟨hjun, oj, hoj, hall⟩ := mem_ready.1 hj
      have hnot : ∀ e ∈ oj.after, Region.binds md e = true → e.on ≠ i := fun e he hb heq => by
        have k1 := hall e he hb
        have k0 := (mem_ready.1 hr).1
        rw [heq] at k1
        rw [Array.getD_eq_getD_getElem?] at k0 k1
        cases hx : listed[i]? with
        | none => rw [hx] at k1; cases k1
        | some x => rw [hx] at k0 k1; simp only [Option.getD_some] at k0 k1; rw [k0] at k1; cases k1
      match n, H with
      | 0, H =>
        have := ready_mono hj hji
        rw [H.2.1] at this
        cases this
      | n + 1, H =>
        have h2 := op_swap hoj (hfree j oj hoj hji hjun hnot) (fun cs b => hsel i oi cs b hi) (fun cs b => hsel j oj cs b hoj) hQ hy (H.2.2 j (ready_mono hj hji))
        refine wpOp_mono (fun a' w' h3 => anyL_firstP hi hsel hQ n (listed.setIfInBounds j true) a' w' ?_ hmi (ready_mono hr (Ne.symm hji)) h3.1 ?_) h2
        · intro k ok hk hki hun hno
          refine hfree k ok hk hki ?_ hno
          by_cases hjk : j = k
          · subst hjk
            exact hjun
          · rwa [getD_set_ne true hjk] at hun
        · rw [Array.setIfInBounds_comm _ _ hji]
          exact h3.2
/-- What reads no memory is taken first. -/
theorem anyL_pure {i : Nat} {oi : Oper} {n : Nat} {listed : Array Bool} {a : Act} {w : World} (hi : ops[i]? = some oi) (hs : Region.noSelect ops = true) (hf : Region.free md ops listed i = true) (hr : (Region.ready md ops listed).contains i = true) (hmi : (m != i) = true)
    (hQ : ∀ v c a w, Q (.panic c) (a.put oi.dst v) w → Q (.panic c) a w) (h : ∃ v, GivesIn P ops (fun _ => True) oi v a ∧ anyL P md ops Q C m n (listed.setIfInBounds i true) (a.put oi.dst v) w) : anyL P md ops Q C m (n + 1) listed a w := by
  obtain ⟨v, h1, h2⟩ := h
  exact anyL_firstP hi (Region.noSelect_spec hs) (hQ v) n listed a w (Region.free_spec hi hf) (by simpa using hmi) (by simpa using hr) h1 h2
end
end Go.Proofs.Ytfeopoamednidaa
