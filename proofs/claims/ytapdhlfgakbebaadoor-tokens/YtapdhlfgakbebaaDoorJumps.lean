/-
  A scope in which the run jumps to several labels: what holds at each label, and a measure that every pass lowers. (After the guide's law for one label.)
-/
import Derived.Test.YtapdhlfgakbebaaDoorAid
namespace Go.Proofs.YtapdhlfgakbebaaDoor
open Go.RowKit
/-- What a slot holds that no relation names. -/
def slotOf (us : List Value) (j : Nat) : Value := us.getD j undef
/-- As Q; by a goto to label l: J l. -/
def exitJumps (J : Nat → Act → World → Prop) (Q : Exit → Act → World → Prop) : Exit → Act → World → Prop
  | .goto l, a, w => J l a w
  | e, a, w => Q e a w
theorem wp_scope_at {P : Program} {a : Act} {w : World} {Q : Exit → Act → World → Prop} {c : Code} {X : Type} (fr : X → Act) (I : Nat → X → World → Prop) (μ : Nat → X → Nat)
    (first : c.wp P (exitJumps (fun l a' w' => ∃ x, a' = fr x ∧ I l x w') Q) a w)
    (pass : ∀ l x w, I l x w → ∃ rest, findLabel c l = some rest ∧ rest.wp P (exitJumps (fun l' a' w' => ∃ x', a' = fr x' ∧ I l' x' w' ∧ μ l' x' < μ l x) Q) (fr x) w) : (Code.scope c).wp P Q a w := by
  intro b k cs
  have key : ∀ n l x w, μ l x = n → I l x w → ∃ rest, findLabel c l = some rest ∧ ∃ e a' w', Q e a' w' ∧ Arrives P (lone (b.at (fr x) (.code rest :: .inScope c :: k)) cs w) b k cs e a' w' := by
    intro n
    induction n using Nat.strongRecOn with
    | _ n ih =>
      intro l x w hn hI
      obtain ⟨rest, hf, hp⟩ := pass l x w hI
      refine ⟨rest, hf, ?_⟩
      obtain ⟨e, a₁, w₁, hq, harr⟩ := hp b (.inScope c :: k) cs
      cases e with
      | normal => exact ⟨.normal, a₁, w₁, hq, Steps.trans harr (.one step_inScope)⟩
      | exit id => exact ⟨.exit id, a₁, w₁, hq, fun k' hk => harr k' (by simp [exitTo, hk])⟩
      | goto l' =>
        obtain ⟨x', rfl, hI', hlt⟩ := hq
        obtain ⟨rest', hf', e₂, a₂, w₂, hq₂, harr₂⟩ := ih _ (by omega) l' x' w₁ rfl hI'
        exact ⟨e₂, a₂, w₂, hq₂, .of_steps (harr _ (by simp [gotoIn, hf'])) harr₂⟩
      | ret => exact ⟨_, a₁, w₁, hq, harr⟩
      | panic ch => exact ⟨_, a₁, w₁, hq, harr⟩
      | outgrown => exact ⟨_, a₁, w₁, hq, harr⟩
  obtain ⟨e, a₁, w₁, hq, harr⟩ := first b (.inScope c :: k) cs
  cases e with
  | normal => exact ⟨.normal, a₁, w₁, hq, .head step_scope (Steps.trans harr (.one step_inScope))⟩
  | exit id => exact ⟨.exit id, a₁, w₁, hq, fun k' hk => .head step_scope (harr k' (by simp [exitTo, hk]))⟩
  | goto l' =>
    obtain ⟨x', rfl, hI'⟩ := hq
    obtain ⟨rest', hf', e₂, a₂, w₂, hq₂, harr₂⟩ := key _ l' x' w₁ rfl hI'
    exact ⟨e₂, a₂, w₂, hq₂, .of_steps (.head step_scope (harr _ (by simp [gotoIn, hf']))) harr₂⟩
  | ret => exact ⟨_, a₁, w₁, hq, .of_steps (.one step_scope) harr⟩
  | panic ch => exact ⟨_, a₁, w₁, hq, .of_steps (.one step_scope) harr⟩
  | outgrown => exact ⟨_, a₁, w₁, hq, .of_steps (.one step_scope) harr⟩
theorem exitJumps_ret {J : Nat → Act → World → Prop} {Q : Exit → Act → World → Prop} {a : Act} {w : World} : exitJumps J Q .ret a w = Q .ret a w := rfl
theorem exitJumps_goto {J : Nat → Act → World → Prop} {Q : Exit → Act → World → Prop} {l : Nat} {a : Act} {w : World} : exitJumps J Q (.goto l) a w = J l a w := rfl
end Go.Proofs.YtapdhlfgakbebaaDoor
