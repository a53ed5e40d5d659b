/-
  How many parts a type has; how its variables are gathered. Plain words.
-/
import Derived.Test.YtbgpjaniohpfaaaTp
namespace Go.Proofs.Ytbgpjaniohpfaaa
mutual
/-- How many parts there are. -/
def Ty.count : Ty → Nat
  | .mk _ _ _ _ as => 1 + Ty.countL as
def Ty.countL : List Ty → Nat
  | [] => 0
  | a :: as => Ty.count a + Ty.countL as
end
mutual
theorem Ty.vars_len : ∀ (T : Ty) (l : List Int), (T.vars l).length ≤ l.length + T.count
  | .mk k n s e as, l => by
    unfold Ty.vars Ty.count
    split
    · split
      · omega
      · simp
    · have := Ty.varsL_len as l
      omega
theorem Ty.varsL_len : ∀ (as : List Ty) (l : List Int), (Ty.varsL l as).length ≤ l.length + Ty.countL as
  | [], l => by unfold Ty.varsL Ty.countL; omega
  | a :: as, l => by
    unfold Ty.varsL Ty.countL
    have := Ty.vars_len a l
    have := Ty.varsL_len as (a.vars l)
    omega
end
theorem Ty.vars_in (k n : Int) (s : ByteArray) (e : Int) (as : List Ty) (l : List Int) (hk : k = 0) (h : l.contains n = true) : (Ty.mk k n s e as).vars l = l := by rw [Ty.vars, if_pos hk, if_pos h]
theorem Ty.vars_new (k n : Int) (s : ByteArray) (e : Int) (as : List Ty) (l : List Int) (hk : k = 0) (h : l.contains n = false) : (Ty.mk k n s e as).vars l = l ++ [n] := by rw [Ty.vars, if_pos hk, if_neg (by rw [h]; simp)]
theorem Ty.vars_args (k n : Int) (s : ByteArray) (e : Int) (as : List Ty) (l : List Int) (hk : ¬ k = 0) : (Ty.mk k n s e as).vars l = Ty.varsL l (as.drop 0) := by rw [Ty.vars, if_neg hk]; rfl
theorem Ty.varsL_step (as : List Ty) (i : Nat) (hi : i < as.length) (l : List Int) : Ty.varsL l (as.drop i) = Ty.varsL ((as[i]'hi).vars l) (as.drop (i + 1)) := by
  rw [List.drop_eq_getElem_cons hi]
  conv => lhs; unfold Ty.varsL
theorem Ty.varsL_end (l : List Int) : Ty.varsL l [] = l := by unfold Ty.varsL; rfl
theorem Ty.countL_step (as : List Ty) (i : Nat) (hi : i < as.length) : Ty.countL (as.drop i) = (as[i]'hi).count + Ty.countL (as.drop (i + 1)) := by
  rw [List.drop_eq_getElem_cons hi]
  conv => lhs; unfold Ty.countL
end Go.Proofs.Ytbgpjaniohpfaaa
