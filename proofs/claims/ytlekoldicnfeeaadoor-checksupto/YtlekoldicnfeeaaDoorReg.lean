/-
  Regions that draw their order: what only reads in every world of a class may be taken first; then what is left is gone through in every order.
-/
import Derived.Test.YtlekoldicnfeeaaDoorC7
namespace Go.Proofs.YtlekoldicnfeeaaDoor
open Go.RowKit Go.Deep
section
variable {P : Program} {ops : Array Oper} {Q : Exit → Act → World → Prop} {md : Region.Mode} {C : World → Prop}
/-- Whatever order is taken from here on; all the while the world is of the class. -/
def anyIn (P : Program) (md : Region.Mode) (ops : Array Oper) (Q : Exit → Act → World → Prop) (C : World → Prop) : Nat → Array Bool → Act → World → Prop
  | 0, listed, a, w => C w ∧ Region.ready md ops listed = [] ∧ Q .normal a w
  | n + 1, listed, a, w => C w ∧ (Region.ready md ops listed = [] → Q .normal a w) ∧ ∀ i ∈ Region.ready md ops listed, wpOp P ops Q i (anyIn P md ops Q C n (listed.setIfInBounds i true)) a w
theorem anyIn_any : ∀ (n : Nat) (listed : Array Bool) (a : Act) (w : World), anyIn P md ops Q C n listed a w → wpAny P md ops Q n listed a w
  | 0, _, _, _, h => h.2
  | n + 1, _, _, _, h => ⟨h.2.1, fun i hi => wpOp_mono (fun a' w' h' => anyIn_any n _ a' w' h') (h.2.2 i hi)⟩
theorem anyIn_cls {n : Nat} {listed : Array Bool} {a : Act} {w : World} (h : anyIn P md ops Q C n listed a w) : C w := by
  cases n with
  | zero => exact h.1
  | succ n => exact h.1
/-- The operation gives this value in every world of the class, and leaves the world. -/
def GivesIn (P : Program) (ops : Array Oper) (C : World → Prop) (o : Oper) (v : Value) (a : Act) : Prop :=
  (Region.wanted o (yielded ops a.tmps) = true ∧ ∀ w, C w → (execOp a.eval o).run P w = .ok (.value v) w) ∨ (Region.wanted o (yielded ops a.tmps) = false ∧ v = undef)
theorem GivesIn.op {i : Nat} {o : Oper} {v : Value} {a : Act} (hi : ops[i]? = some o) (hy : GivesIn P ops C o v a) {K : Act → World → Prop} {w : World} (hw : C w) (h : K (a.put o.dst v) w) : wpOp P ops Q i K a w := by
  unfold wpOp
  simp only [hi]
  rcases hy with ⟨h1, h2⟩ | ⟨h1, rfl⟩
  · rw [if_pos h1]
    left
    unfold Oper.wp
    rw [h2 w hw]
    exact h
  · rw [if_neg (by simp [h1])]
    exact h
theorem GivesIn.keep {o : Oper} {v : Value} {a a' : Act} (hy : GivesIn P ops C o v a) (he : execOp a'.eval o = execOp a.eval o) (hw : Region.wanted o (yielded ops a'.tmps) = Region.wanted o (yielded ops a.tmps)) : GivesIn P ops C o v a' := by
  unfold GivesIn
  rw [he, hw]
  exact hy
/-- An operation apart from it: which of the two comes first is nothing. -/
theorem op_swap {j : Nat} {oi oj : Oper} {v : Value} (hj : ops[j]? = some oj) (hap : oi.apart ops oj = true) (hsi : ∀ cs b, oi.op ≠ .select cs b) (hsj : ∀ cs b, oj.op ≠ .select cs b)
    (hQ : ∀ c a w, Q (.panic c) (a.put oi.dst v) w → Q (.panic c) a w) {K : Act → World → Prop} {a : Act} {w : World} (hy : GivesIn P ops C oi v a) (h : wpOp P ops Q j K (a.put oi.dst v) w) :
    wpOp P ops Q j (fun a' w' => GivesIn P ops C oi v a' ∧ K (a'.put oi.dst v) w') a w := by
  obtain ⟨h1, h2, h3⟩ := Oper.apart_spec hap
  have hk : ∀ (b : Act), GivesIn P ops C oi v b → ∀ u, GivesIn P ops C oi v (b.put oj.dst u) := fun b hb u => hb.keep (execOp_put oi hsi b oj.dst u h3) (wanted_put oi b oj.dst u h3)
  have hput : ∀ u, (fun a' w' => GivesIn P ops C oi v a' ∧ K (a'.put oi.dst v) w') (a.put oj.dst u) = fun w' => GivesIn P ops C oi v (a.put oj.dst u) ∧ K ((a.put oi.dst v).put oj.dst u) w' := fun u => by
    funext w'
    simp only [← Act.put_comm a v u h2]
  unfold wpOp at h ⊢
  simp only [hj] at h ⊢
  rw [wanted_put oj a oi.dst v h1] at h
  by_cases hw : Region.wanted oj (yielded ops a.tmps) = true
  · rw [if_pos hw] at h ⊢
    rcases h with h | ⟨ha, hl⟩
    · left
      unfold Oper.wp at h ⊢
      rw [execOp_put oj hsj a oi.dst v h1] at h
      generalize (execOp a.eval oj).run P w = r at h ⊢
      match r, h with
      | .ok (.value u) w', h => exact (congrFun (hput u) w').mpr ⟨hk a hy u, h⟩
      | .ok .skip w', h => exact (congrFun (hput undef) w').mpr ⟨hk a hy undef, h⟩
      | .ok (.defer d) w', h =>
        refine ⟨hk { a with defers := d :: a.defers } (hy.keep (a' := { a with defers := d :: a.defers }) rfl rfl) undef, ?_⟩
        rw [← Act.put_comm _ v undef h2, ← Act.put_defers]
        exact h
      | .ok (.enter f args) w', h =>
        refine Calls.mono h fun e w'' he => ?_
        match e, he with
        | .returned u, he => exact (congrFun (hput u) w'').mpr ⟨hk a hy u, he⟩
        | .panicked c, he => exact hQ _ _ _ he
        | .outgrown, he => exact he
      | .ok (.row row args) w', h => exact Rows.mono h fun u w'' he => (congrFun (hput u) w'').mpr ⟨hk a hy u, he⟩
      | .halt (.panic u) w', h => exact hQ _ _ _ h
    · right
      unfold Oper.asks at ha ⊢
      rw [execOp_put oj hsj a oi.dst v h1] at ha
      exact ⟨ha, hl⟩
  · rw [if_neg hw] at h ⊢
    exact (congrFun (hput undef) w).mpr ⟨hk a hy undef, h⟩
theorem anyIn_first {i : Nat} {oi : Oper} {v : Value} (hi : ops[i]? = some oi) (hsel : ∀ (j : Nat) (o : Oper) cs b, ops[j]? = some o → o.op ≠ .select cs b) (hQ : ∀ c a w, Q (.panic c) (a.put oi.dst v) w → Q (.panic c) a w) :
    ∀ (n : Nat) (listed : Array Bool) (a : Act) (w : World), (∀ j oj, ops[j]? = some oj → j ≠ i → listed.getD j true = false → (∀ e ∈ oj.after, Region.binds md e = true → e.on ≠ i) → oi.apart ops oj = true) →
      i ∈ Region.ready md ops listed → GivesIn P ops C oi v a → anyIn P md ops Q C n (listed.setIfInBounds i true) (a.put oi.dst v) w → anyIn P md ops Q C (n + 1) listed a w
  | n, listed, a, w, hfree, hr, hy, H => by
    have hC : C w := anyIn_cls H
    refine ⟨hC, fun h => (by rw [h] at hr; cases hr), fun j hj => ?_⟩
    by_cases hji : j = i
    · subst hji
      exact hy.op hi hC H
    · obtain ⟨hjun, oj, hoj, hall⟩ := mem_ready.1 hj
      have hnot : ∀ e ∈ oj.after, Region.binds md e = true → e.on ≠ i := fun e he hb heq => by
        have k1 := hall e he hb
        have k0 := (mem_ready.1 hr).1
        rw [heq] at k1
        rw [Array.getD_eq_getD_getElem?] at k0 k1
        cases hx : listed[i]? with
        | none => rw [hx] at k1; cases k1
        | some x => rw [hx] at k0 k1; simp only [Option.getD_some] at k0 k1; rw [k0] at k1; cases k1
      match n, H with
      | 0, H =>
        have := ready_mono hj hji
        rw [H.2.1] at this
        cases this
      | n + 1, H =>
        have h2 := op_swap hoj (hfree j oj hoj hji hjun hnot) (fun cs b => hsel i oi cs b hi) (fun cs b => hsel j oj cs b hoj) hQ hy (H.2.2 j (ready_mono hj hji))
        refine wpOp_mono (fun a' w' h3 => anyIn_first hi hsel hQ n (listed.setIfInBounds j true) a' w' ?_ (ready_mono hr (Ne.symm hji)) h3.1 ?_) h2
        · intro k ok hk hki hun hno
          refine hfree k ok hk hki ?_ hno
          by_cases hjk : j = k
          · subst hjk
            exact hjun
          · rwa [getD_set_ne true hjk] at hun
        · rw [Array.setIfInBounds_comm _ _ hji]
          exact h3.2
/-- What only reads is taken first. -/
theorem anyIn_take {i : Nat} {oi : Oper} {v : Value} {n : Nat} {listed : Array Bool} {a : Act} {w : World} (hi : ops[i]? = some oi) (hs : Region.noSelect ops = true) (hf : Region.free md ops listed i = true) (hr : (Region.ready md ops listed).contains i = true)
    (hQ : ∀ c a w, Q (.panic c) (a.put oi.dst v) w → Q (.panic c) a w) (hy : GivesIn P ops C oi v a) (h : anyIn P md ops Q C n (listed.setIfInBounds i true) (a.put oi.dst v) w) : anyIn P md ops Q C (n + 1) listed a w :=
  anyIn_first hi (Region.noSelect_spec hs) hQ n listed a w (Region.free_spec hi hf) (by simpa using hr) hy h
theorem anyIn_read {i : Nat} {oi : Oper} {n : Nat} {listed : Array Bool} {a : Act} {w : World} (hi : ops[i]? = some oi) (hs : Region.noSelect ops = true) (hf : Region.free md ops listed i = true) (hr : (Region.ready md ops listed).contains i = true)
    (hQ : ∀ v c a w, Q (.panic c) (a.put oi.dst v) w → Q (.panic c) a w) (h : ∃ v, GivesIn P ops C oi v a ∧ anyIn P md ops Q C n (listed.setIfInBounds i true) (a.put oi.dst v) w) : anyIn P md ops Q C (n + 1) listed a w := by
  obtain ⟨v, h1, h2⟩ := h
  exact anyIn_take hi hs hf hr (hQ v) h1 h2
/-- What is left is gone through. -/
theorem anyIn_all {rs : List Nat} {n : Nat} {listed : Array Bool} {a : Act} {w : World} (hC : C w) (hr : Region.ready md ops listed = rs) (hne : rs ≠ []) (h : ∀ i ∈ rs, wpOp P ops Q i (anyIn P md ops Q C n (listed.setIfInBounds i true)) a w) : anyIn P md ops Q C (n + 1) listed a w :=
  ⟨hC, fun h0 => absurd (hr ▸ h0) hne, hr ▸ h⟩
/-- One operation, what follows behind a variable. -/
theorem anyIn_op {i : Nat} {o : Oper} {n : Nat} {listed : Array Bool} {a : Act} {w : World} (hi : ops[i]? = some o) (h : ∀ K : Act → World → Prop, (∀ a w, anyIn P md ops Q C n (listed.setIfInBounds i true) a w → K a w) → if Region.wanted o (yielded ops a.tmps) then o.wp P a w K Q else K (a.put o.dst undef) w) : wpOp P ops Q i (anyIn P md ops Q C n (listed.setIfInBounds i true)) a w := by
  have := h _ (fun _ _ h => h)
  unfold wpOp
  simp only [hi]
  split
  · rename_i hw
    rw [if_pos hw] at this
    exact .inl this
  · rename_i hw
    rwa [if_neg hw] at this
theorem anyIn_one {i : Nat} {o : Oper} {n : Nat} {listed : Array Bool} {a : Act} {w : World} (hC : C w) (hi : ops[i]? = some o) (hr : Region.ready md ops listed = [i]) (h : ∀ K : Act → World → Prop, (∀ a w, anyIn P md ops Q C n (listed.setIfInBounds i true) a w → K a w) → if Region.wanted o (yielded ops a.tmps) then o.wp P a w K Q else K (a.put o.dst undef) w) : anyIn P md ops Q C (n + 1) listed a w :=
  anyIn_all hC hr (by simp) (fun j hj => by
    obtain rfl : j = i := by simpa using hj
    exact anyIn_op hi h)
theorem anyIn_two {i j : Nat} {o o' : Oper} {n : Nat} {listed : Array Bool} {a : Act} {w : World} (hC : C w) (hi : ops[i]? = some o) (hj : ops[j]? = some o') (hr : Region.ready md ops listed = [i, j]) (h : ∀ K : Act → World → Prop, (∀ a w, anyIn P md ops Q C n (listed.setIfInBounds i true) a w → K a w) → if Region.wanted o (yielded ops a.tmps) then o.wp P a w K Q else K (a.put o.dst undef) w)
    (h' : ∀ K : Act → World → Prop, (∀ a w, anyIn P md ops Q C n (listed.setIfInBounds j true) a w → K a w) → if Region.wanted o' (yielded ops a.tmps) then o'.wp P a w K Q else K (a.put o'.dst undef) w) : anyIn P md ops Q C (n + 1) listed a w :=
  anyIn_all hC hr (by simp) (fun k hk => by
    have : k = i ∨ k = j := by simpa using hk
    rcases this with rfl | rfl
    · exact anyIn_op hi h
    · exact anyIn_op hj h')
theorem anyIn_done {listed : Array Bool} {a : Act} {w : World} {n : Nat} (hC : C w) (hr : Region.ready md ops listed = []) (h : Q .normal a w) : anyIn P md ops Q C n listed a w := by
  cases n with
  | zero => exact ⟨hC, hr, h⟩
  | succ n => exact ⟨hC, fun _ => h, by rw [hr]; simp⟩
/-- A region that draws its order. -/
theorem region_any {id : Nat} {a : Act} {w : World} {l : List Oper} (hm : P.follows .mixedOrders = true) (h : anyIn P .any l.toArray Q C l.length (Array.replicate l.length false) a w.drew) : (Code.region id l.toArray true).wp P Q a w := by
  refine wp_region_any hm ?_
  have := anyIn_any _ _ _ _ h
  simpa using this
end
end Go.Proofs.YtlekoldicnfeeaaDoor
