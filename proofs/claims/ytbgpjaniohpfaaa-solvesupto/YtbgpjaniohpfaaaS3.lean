/-
  The variables of pairs of types; what stands at the beginning. Plain words.
-/
import Derived.Test.YtbgpjaniohpfaaaK17
namespace Go.Proofs.Ytbgpjaniohpfaaa
open Go.RowKit
theorem mem_met (V : List Int) (x y : Int) : y ∈ met V x ↔ y ∈ V ∨ y = x := by
  unfold met
  cases h : V.contains x with
  | true =>
    have hx : x ∈ V := by simpa using h
    simp only [if_true]
    exact ⟨.inl, fun h => by rcases h with h | rfl; exact h; exact hx⟩
  | false => simp
theorem nodup_met {V : List Int} (h : V.Nodup) (x : Int) : (met V x).Nodup := by
  unfold met
  cases hx : V.contains x with
  | true => simpa using h
  | false =>
    have hx : x ∉ V := by simpa using hx
    simp only [Bool.false_eq_true, if_false]
    refine List.nodup_append.2 ⟨h, by simp, fun a ha b hb => ?_⟩
    obtain rfl : b = x := by simpa using hb
    rintro rfl
    exact hx ha
mutual
theorem Ty.mem_vars : ∀ (T : Ty) (V : List Int) (y : Int), y ∈ T.vars V ↔ y ∈ V ∨ T.hasV y = true
  | .mk k n s e l, V, y => by
    by_cases hk : k = 0
    · rw [Ty.vars_met hk, mem_met, Ty.hasV_var hk]
      rw [beq_iff_eq]
      exact ⟨fun h => h.imp id Eq.symm, fun h => h.imp id Eq.symm⟩
    · rw [Ty.vars_args _ _ _ _ _ _ hk, List.drop_zero, Ty.mem_varsL l V y, Ty.hasV_mk hk]
theorem Ty.mem_varsL : ∀ (l : List Ty) (V : List Int) (y : Int), y ∈ Ty.varsL V l ↔ y ∈ V ∨ l.any (Ty.hasV y) = true
  | [], V, y => by rw [Ty.varsL_end]; simp
  | a :: l, V, y => by
    unfold Ty.varsL
    rw [Ty.mem_varsL l _ y, Ty.mem_vars a V y, List.any_cons, Bool.or_eq_true, or_assoc]
end
mutual
theorem Ty.nodup_vars : ∀ (T : Ty) (V : List Int), V.Nodup → (T.vars V).Nodup
  | .mk k n s e l, V, h => by
    by_cases hk : k = 0
    · rw [Ty.vars_met hk]; exact nodup_met h n
    · rw [Ty.vars_args _ _ _ _ _ _ hk, List.drop_zero]; exact Ty.nodup_varsL l V h
theorem Ty.nodup_varsL : ∀ (l : List Ty) (V : List Int), V.Nodup → (Ty.varsL V l).Nodup
  | [], V, h => by rw [Ty.varsL_end]; exact h
  | a :: l, V, h => by
    unfold Ty.varsL
    exact Ty.nodup_varsL l _ (Ty.nodup_vars a V h)
end
theorem TyIn.var_wf {w : World} {cs : List Value} {T : Ty} (h : TyIn w cs T) : ∀ x, T.hasV x = true → (Lit.int .i64 x).wf = true := by
  induction h with
  | mk k n s e l p cap b o C hp hw hc hr ih =>
    intro x hx
    by_cases hk : k = 0
    · rw [Ty.hasV_var hk] at hx
      obtain rfl : n = x := by simpa using hx
      exact hw.2.1
    · rw [Ty.hasV_mk hk, List.any_eq_true] at hx
      obtain ⟨a, ha, hx⟩ := hx
      obtain ⟨i, hi, rfl⟩ := List.mem_iff_getElem.1 ha
      exact ih i hi x hx
/-- The variables of pairs, behind some. -/
def allVars (ps : List (Ty × Ty)) : List Int := ps.foldl (fun V p => p.2.vars (p.1.vars V)) []
def allMarks (ps : List (Ty × Ty)) : Int → Int := ps.foldl (fun q p => p.2.marks (p.1.marks q)) (fun _ => 0)
def allCount (ps : List (Ty × Ty)) : Nat := ps.foldl (fun n p => n + (p.1.count + p.2.count)) 0
theorem allVars_snoc (ps : List (Ty × Ty)) (p : Ty × Ty) : allVars (ps ++ [p]) = p.2.vars (p.1.vars (allVars ps)) := by simp [allVars]
theorem allMarks_snoc (ps : List (Ty × Ty)) (p : Ty × Ty) : allMarks (ps ++ [p]) = p.2.marks (p.1.marks (allMarks ps)) := by simp [allMarks]
theorem allCount_snoc (ps : List (Ty × Ty)) (p : Ty × Ty) : allCount (ps ++ [p]) = allCount ps + (p.1.count + p.2.count) := by simp [allCount]
theorem rev_ind {α : Type} {P : List α → Prop} (h0 : P []) (h1 : ∀ l a, P l → P (l ++ [a])) : ∀ l, P l := by
  intro l
  have : ∀ n, P (l.take n) := by
    intro n
    induction n with
    | zero => simpa using h0
    | succ n ih =>
      by_cases hn : n < l.length
      · rw [List.take_succ_eq_append_getElem hn]
        exact h1 _ _ ih
      · rw [List.take_of_length_le (by omega)]
        rw [List.take_of_length_le (by omega)] at ih
        exact ih
  simpa using this l.length
theorem mem_allVars (x : Int) : ∀ ps : List (Ty × Ty), x ∈ allVars ps ↔ ∃ p ∈ ps, p.1.hasV x = true ∨ p.2.hasV x = true := by
  refine rev_ind ?_ ?_
  · simp [allVars]
  · intro ps p ih
    rw [allVars_snoc, Ty.mem_vars, Ty.mem_vars, ih]
    constructor
    · rintro ((⟨a, ha, h⟩ | h) | h)
      · exact ⟨a, List.mem_append_left _ ha, h⟩
      · exact ⟨p, by simp, .inl h⟩
      · exact ⟨p, by simp, .inr h⟩
    · rintro ⟨a, ha, h⟩
      rcases List.mem_append.1 ha with ha | ha
      · exact .inl (.inl ⟨a, ha, h⟩)
      · obtain rfl : a = p := by simpa using ha
        rcases h with h | h
        · exact .inl (.inr h)
        · exact .inr h
theorem nodup_allVars : ∀ ps : List (Ty × Ty), (allVars ps).Nodup := by
  refine rev_ind ?_ ?_
  · simp [allVars]
  · intro ps p ih
    rw [allVars_snoc]
    exact Ty.nodup_vars _ _ (Ty.nodup_vars _ _ ih)
theorem allVars_len : ∀ ps : List (Ty × Ty), (allVars ps).length ≤ allCount ps := by
  refine rev_ind ?_ ?_
  · simp [allVars]
  · intro ps p ih
    rw [allVars_snoc, allCount_snoc]
    have h1 := Ty.vars_len p.2 (p.1.vars (allVars ps))
    have h2 := Ty.vars_len p.1 (allVars ps)
    omega
theorem allCount_take (ps : List (Ty × Ty)) : ∀ i, allCount (ps.take i) ≤ allCount ps := by
  have : ∀ (l : List (Ty × Ty)) (n : Nat), n ≤ l.foldl (fun n p => n + (p.1.count + p.2.count)) n := by
    intro l
    induction l with
    | nil => intro n; exact Nat.le_refl _
    | cons a l ih => intro n; exact Nat.le_trans (Nat.le_add_right _ _) (ih _)
  intro i
  conv => rhs; rw [← List.take_append_drop i ps]
  unfold allCount
  rw [List.foldl_append]
  exact this _ _
theorem Agr.none : Agr (fun _ => none) Ty.vr := fun n => Full.free 0 n _ 0 [] rfl rfl
/-- What stands at the beginning. -/
def St.start (ps : List (Ty × Ty)) : St := ⟨Ty.vr, allMarks ps⟩
theorem Ty.hasV_vr_app (x : Int) (T : Ty) : (T.app Ty.vr).hasV x = T.hasV x := by
  induction T using Ty.ind with
  | h k n s e l ih =>
    by_cases hk : k = 0
    · rw [Ty.app_var hk, Ty.hasV_vr, Ty.hasV_var hk]
    · rw [Ty.app_mk hk, Ty.hasV_mk hk, Ty.hasV_mk hk, List.any_map]
      have : ∀ a ∈ l, (Ty.hasV x ∘ Ty.app Ty.vr) a = Ty.hasV x a := by
        intro a ha
        obtain ⟨i, hi, rfl⟩ := List.mem_iff_getElem.1 ha
        exact ih i hi
      rw [Bool.eq_iff_iff, List.any_eq_true, List.any_eq_true]
      constructor
      · rintro ⟨a, ha, h⟩; exact ⟨a, ha, by rw [← this a ha]; exact h⟩
      · rintro ⟨a, ha, h⟩; exact ⟨a, ha, by rw [this a ha]; exact h⟩
end Go.Proofs.Ytbgpjaniohpfaaa
