/-
  What the second reader of types says, in plain words over trees: parts, shapes, likeness, equality, variables. No program is named here.
-/
import Derived.Test.YtbgpjaniohpfaaaRose
namespace Go.Proofs.Ytbgpjaniohpfaaa
open Go.RowKit
theorem Ty.ind {motive : Ty → Prop} (h : ∀ k n s e as, (∀ i (hi : i < as.length), motive (as[i]'hi)) → motive (.mk k n s e as)) : ∀ T, motive T := by
  intro T
  induction hs : SizeOf.sizeOf T using Nat.strongRecOn generalizing T with
  | _ m ih =>
    cases T with
    | mk k n s e as =>
      refine h k n s e as fun i hi => ih _ ?_ _ rfl
      have := List.sizeOf_lt_of_mem (List.getElem_mem hi)
      rw [← hs]
      simp
      omega
mutual
def Ty.alike : Ty → Ty → Bool
  | .mk k n s _ as, .mk k' n' s' _ as' => k == k' && s.data.toList == s'.data.toList && n == n' && as.length == as'.length && Ty.alikeL as as'
def Ty.alikeL : List Ty → List Ty → Bool
  | a :: as, b :: bs => Ty.alike a b && Ty.alikeL as bs
  | _, _ => true
end
mutual
/-- The same with all that it says of itself. -/
def Ty.same : Ty → Ty → Bool
  | .mk k n s e as, .mk k' n' s' e' as' => k == k' && s.data.toList == s'.data.toList && n == n' && e == e' && as.length == as'.length && Ty.sameL as as'
def Ty.sameL : List Ty → List Ty → Bool
  | a :: as, b :: bs => Ty.same a b && Ty.sameL as bs
  | _, _ => true
end
mutual
/-- How many parts, counted up to most and one. -/
def Ty.parts : Ty → Int → Int
  | .mk _ _ _ _ as, most => Ty.partsL as 1 most
def Ty.partsL : List Ty → Int → Int → Int
  | [], n, _ => n
  | a :: as, n, most => if n ≤ most then Ty.partsL as (n + Ty.parts a (most - n)) most else n
end
mutual
def Ty.shaped : Ty → Bool
  | .mk k n s e as =>
    (if k = 0 then as.length == 0 && s.size == 0 && decide (0 ≤ e) && decide (e ≤ 1) else if k = 1 then decide (0 ≤ e) && decide (e ≤ 2) else if k = 2 then decide (2 ≤ as.length) && s.size == 0 && n == 0 && e == 0
      else if k = 3 then as.length == 2 && s.size == 0 && n == 0 && e == 0 else false) && Ty.shapedL as
def Ty.shapedL : List Ty → Bool
  | [] => true
  | a :: as => Ty.shaped a && Ty.shapedL as
end
mutual
def Ty.equality : Ty → Int
  | .mk k _ _ e as => if k = 0 then e else if k = 3 ∨ (k = 1 ∧ e = 0) then 0 else if k = 1 ∧ e = 2 then 1 else Ty.equalityL as
def Ty.equalityL : List Ty → Int
  | [] => 1
  | a :: as => if Ty.equality a = 0 then 0 else Ty.equalityL as
end
mutual
def Ty.vars : List Int → Ty → List Int
  | l, .mk k n _ _ as => if k = 0 then (if l.contains n then l else l ++ [n]) else Ty.varsL l as
def Ty.varsL : List Int → List Ty → List Int
  | l, [] => l
  | l, a :: as => Ty.varsL (Ty.vars l a) as
end
mutual
theorem Ty.parts_bounds : ∀ (T : Ty) (m : Int), 0 ≤ m → 1 ≤ T.parts m ∧ T.parts m ≤ m + 1
  | .mk _ _ _ _ as, m, h => by
    unfold Ty.parts
    exact Ty.partsL_bounds as 1 m (by omega) (by omega)
theorem Ty.partsL_bounds : ∀ (as : List Ty) (n m : Int), 1 ≤ n → n ≤ m + 1 → 1 ≤ Ty.partsL as n m ∧ Ty.partsL as n m ≤ m + 1
  | [], n, m, h1, h2 => by unfold Ty.partsL; exact ⟨h1, h2⟩
  | a :: as, n, m, h1, h2 => by
    unfold Ty.partsL
    split
    · have := Ty.parts_bounds a (m - n) (by omega)
      exact Ty.partsL_bounds as _ m (by omega) (by omega)
    · exact ⟨h1, h2⟩
end
theorem Ty.partsL_end (n m : Int) : Ty.partsL [] n m = n := by unfold Ty.partsL; rfl
theorem Ty.partsL_over (as : List Ty) (n m : Int) (h : ¬ n ≤ m) : Ty.partsL as n m = n := by
  cases as with
  | nil => exact Ty.partsL_end n m
  | cons a as => unfold Ty.partsL; rw [if_neg h]
theorem Ty.partsL_step (as : List Ty) (i : Nat) (hi : i < as.length) (n m : Int) (h : n ≤ m) : Ty.partsL (as.drop i) n m = Ty.partsL (as.drop (i + 1)) (n + (as[i]'hi).parts (m - n)) m := by
  rw [List.drop_eq_getElem_cons hi]
  conv => lhs; unfold Ty.partsL
  rw [if_pos h]
end Go.Proofs.Ytbgpjaniohpfaaa
