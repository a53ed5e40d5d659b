/-
  What Solve says, in plain words over trees: variables replaced, two types made the same. No program is named here.
-/
import Derived.Test.YtbgpjaniohpfaaaTp2
namespace Go.Proofs.Ytbgpjaniohpfaaa
def Ty.kind : Ty → Int
  | .mk k _ _ _ _ => k
def Ty.num : Ty → Int
  | .mk _ n _ _ _ => n
def Ty.nam : Ty → ByteArray
  | .mk _ _ s _ _ => s
def Ty.args : Ty → List Ty
  | .mk _ _ _ _ l => l
/-- A variable by itself. -/
def Ty.vr (n : Int) : Ty := .mk 0 n { data := #[] } 0 []
mutual
/-- Variables replaced. -/
def Ty.app (f : Int → Ty) : Ty → Ty
  | .mk k n s e l => if k = 0 then f n else .mk k n s e (Ty.appL f l)
def Ty.appL (f : Int → Ty) : List Ty → List Ty
  | [] => []
  | a :: l => Ty.app f a :: Ty.appL f l
end
theorem Ty.appL_eq (f : Int → Ty) : ∀ l : List Ty, Ty.appL f l = l.map (Ty.app f)
  | [] => by unfold Ty.appL; rfl
  | a :: l => by unfold Ty.appL; rw [Ty.appL_eq f l]; rfl
theorem Ty.app_var {f : Int → Ty} {k n : Int} {s : ByteArray} {e : Int} {l : List Ty} (h : k = 0) : (Ty.mk k n s e l).app f = f n := by rw [Ty.app, if_pos h]
theorem Ty.app_mk {f : Int → Ty} {k n : Int} {s : ByteArray} {e : Int} {l : List Ty} (h : ¬ k = 0) : (Ty.mk k n s e l).app f = .mk k n s e (l.map (Ty.app f)) := by rw [Ty.app, if_neg h, Ty.appL_eq]
theorem Ty.app_vr (f : Int → Ty) (n : Int) : (Ty.vr n).app f = f n := Ty.app_var rfl
theorem Ty.app_app (f g : Int → Ty) (T : Ty) : (T.app f).app g = T.app (fun n => (f n).app g) := by
  induction T using Ty.ind with
  | h k n s e l ih =>
    by_cases hk : k = 0
    · rw [Ty.app_var hk, Ty.app_var hk]
    · rw [Ty.app_mk hk, Ty.app_mk hk, Ty.app_mk hk, List.map_map]
      congr 1
      refine List.map_congr_left fun a ha => ?_
      obtain ⟨i, hi, rfl⟩ := List.mem_iff_getElem.1 ha
      exact ih i hi
mutual
/-- Does a variable stand in a type? -/
def Ty.hasV (m : Int) : Ty → Bool
  | .mk k n _ _ l => if k = 0 then n == m else Ty.hasVL m l
def Ty.hasVL (m : Int) : List Ty → Bool
  | [] => false
  | a :: l => Ty.hasV m a || Ty.hasVL m l
end
theorem Ty.hasVL_eq (m : Int) : ∀ l : List Ty, Ty.hasVL m l = l.any (Ty.hasV m)
  | [] => by unfold Ty.hasVL; rfl
  | a :: l => by unfold Ty.hasVL; rw [Ty.hasVL_eq m l]; rfl
theorem Ty.hasV_var {m k n : Int} {s : ByteArray} {e : Int} {l : List Ty} (h : k = 0) : (Ty.mk k n s e l).hasV m = (n == m) := by rw [Ty.hasV, if_pos h]
theorem Ty.hasV_mk {m k n : Int} {s : ByteArray} {e : Int} {l : List Ty} (h : ¬ k = 0) : (Ty.mk k n s e l).hasV m = l.any (Ty.hasV m) := by rw [Ty.hasV, if_neg h, Ty.hasVL_eq]
theorem Ty.hasV_vr (m n : Int) : (Ty.vr n).hasV m = (n == m) := Ty.hasV_var rfl
theorem Ty.app_same {f g : Int → Ty} : ∀ T : Ty, (∀ n, T.hasV n = true → f n = g n) → T.app f = T.app g := by
  intro T
  induction T using Ty.ind with
  | h k n s e l ih =>
    intro h
    by_cases hk : k = 0
    · rw [Ty.app_var hk, Ty.app_var hk]
      exact h n (by rw [Ty.hasV_var hk]; simp)
    · rw [Ty.app_mk hk, Ty.app_mk hk]
      congr 1
      refine List.map_congr_left fun a ha => ?_
      obtain ⟨i, hi, rfl⟩ := List.mem_iff_getElem.1 ha
      refine ih i hi fun m hm => h m ?_
      rw [Ty.hasV_mk hk, List.any_eq_true]
      exact ⟨_, ha, hm⟩
theorem Ty.hasV_app {f : Int → Ty} (m : Int) : ∀ T : Ty, (T.app f).hasV m = true → ∃ n, T.hasV n = true ∧ (f n).hasV m = true := by
  intro T
  induction T using Ty.ind with
  | h k n s e l ih =>
    intro h
    by_cases hk : k = 0
    · rw [Ty.app_var hk] at h
      exact ⟨n, by rw [Ty.hasV_var hk]; simp, h⟩
    · rw [Ty.app_mk hk, Ty.hasV_mk hk, List.any_eq_true] at h
      obtain ⟨_, hm, h⟩ := h
      obtain ⟨a, ha, rfl⟩ := List.mem_map.1 hm
      obtain ⟨i, hi, rfl⟩ := List.mem_iff_getElem.1 ha
      obtain ⟨x, hx, hy⟩ := ih i hi h
      exact ⟨x, by rw [Ty.hasV_mk hk, List.any_eq_true]; exact ⟨_, ha, hx⟩, hy⟩
/-- One variable replaced. -/
def one (n : Int) (T : Ty) : Int → Ty := fun m => if m = n then T else Ty.vr m
theorem Ty.app_one {n : Int} {T : Ty} : ∀ (U : Ty), U.app Ty.vr = U → U.hasV n = false → U.app (one n T) = U := by
  intro U hU h
  refine Eq.trans (Ty.app_same (g := Ty.vr) U fun m hm => ?_) hU
  unfold one
  rw [if_neg]
  rintro rfl
  rw [h] at hm
  cases hm
/-- What is left of a type when all of its variables are replaced again and again. -/
inductive Full (M : Int → Option Ty) : Ty → Ty → Prop
  | bound (k n : Int) (s : ByteArray) (e : Int) (l : List Ty) (U T : Ty) (hk : k = 0) (hu : M n = some U) (h : Full M U T) : Full M (.mk k n s e l) T
  | free (k n : Int) (s : ByteArray) (e : Int) (l : List Ty) (hk : k = 0) (hu : M n = none) : Full M (.mk k n s e l) (.vr n)
  | args (k n : Int) (s : ByteArray) (e : Int) (l r : List Ty) (hk : ¬ k = 0) (hl : l.length = r.length) (h : ∀ i (hi : i < l.length) (hr : i < r.length), Full M (l[i]'hi) (r[i]'hr)) : Full M (.mk k n s e l) (.mk k n s e r)
theorem Full.det {M : Int → Option Ty} {t T : Ty} (h : Full M t T) : ∀ {U : Ty}, Full M t U → T = U := by
  induction h with
  | bound k n s e l V T hk hu h ih =>
    intro U hU
    cases hU with
    | bound _ _ _ _ _ V' _ _ hu' h' =>
      rw [hu] at hu'
      cases hu'
      exact ih h'
    | free _ _ _ _ _ _ hu' => rw [hu] at hu'; cases hu'
    | args _ _ _ _ _ _ hk' _ _ => exact absurd hk hk'
  | free k n s e l hk hu =>
    intro U hU
    cases hU with
    | bound _ _ _ _ _ V' _ _ hu' h' => rw [hu] at hu'; cases hu'
    | free _ _ _ _ _ _ hu' => rfl
    | args _ _ _ _ _ _ hk' _ _ => exact absurd hk hk'
  | args k n s e l r hk hl h ih =>
    intro U hU
    cases hU with
    | bound _ _ _ _ _ V' _ hk' hu' h' => exact absurd hk' hk
    | free _ _ _ _ _ hk' hu' => exact absurd hk' hk
    | args _ _ _ _ _ r' _ hl' h' =>
      congr 1
      refine List.ext_getElem (hl.symm.trans hl') fun i h1 h2 => ?_
      exact ih i (by omega) h1 (h' i (by omega) h2)
/-- A list of what variables stand for, and what each of them is in the end. -/
def Agr (M : Int → Option Ty) (f : Int → Ty) : Prop := ∀ n, Full M (.vr n) (f n)
theorem Full.var {M : Int → Option Ty} {n : Int} {T : Ty} (h : Full M (.vr n) T) {k : Int} (hk : k = 0) (s : ByteArray) (e : Int) (l : List Ty) : Full M (.mk k n s e l) T := by
  unfold Ty.vr at h
  cases h with
  | bound _ _ _ _ _ U _ _ hu h => exact Full.bound _ _ _ _ _ U _ hk hu h
  | free _ _ _ _ _ _ hu => exact Full.free _ _ _ _ _ hk hu
  | args _ _ _ _ _ _ hk' _ _ => exact absurd rfl hk'
theorem Agr.full {M : Int → Option Ty} {f : Int → Ty} (h : Agr M f) (t : Ty) : Full M t (t.app f) := by
  induction t using Ty.ind with
  | h k n s e l ih =>
    by_cases hk : k = 0
    · rw [Ty.app_var hk]
      exact (h n).var hk s e l
    · rw [Ty.app_mk hk]
      refine Full.args k n s e l _ hk (by simp) fun i hi hr => ?_
      rw [List.getElem_map]
      exact ih i hi
theorem Agr.eq {M : Int → Option Ty} {f : Int → Ty} (h : Agr M f) {t T : Ty} (hT : Full M t T) : T = t.app f := hT.det (h.full t)
theorem Agr.free {M : Int → Option Ty} {f : Int → Ty} (h : Agr M f) {n : Int} (hn : M n = none) : f n = .vr n := (h n).det (Full.free 0 n _ 0 [] rfl hn)
/-- What is replaced whole stays so. -/
theorem Agr.still {M : Int → Option Ty} {f : Int → Ty} (h : Agr M f) {t T : Ty} (hT : Full M t T) : T.app f = T := by
  induction hT with
  | bound k n s e l V T hk hu h' ih => exact ih
  | free k n s e l hk hu => rw [Ty.app_vr, h.free hu]
  | args k n s e l r hk hl h' ih =>
    rw [Ty.app_mk hk]
    congr 1
    refine List.ext_getElem (by simp) fun i h1 h2 => ?_
    rw [List.getElem_map]
    exact ih i (by omega) h2
theorem Full.plain {M : Int → Option Ty} {t T : Ty} (hT : Full M t T) : T.app Ty.vr = T := by
  induction hT with
  | bound k n s e l V T hk hu h' ih => exact ih
  | free k n s e l hk hu => exact Ty.app_vr _ _
  | args k n s e l r hk hl h' ih =>
    rw [Ty.app_mk hk]
    congr 1
    refine List.ext_getElem (by simp) fun i h1 h2 => ?_
    rw [List.getElem_map]
    exact ih i (by omega) h2
/-- One more variable stands for a type. -/
def upd {α : Type} (M : Int → α) (n : Int) (x : α) : Int → α := fun m => if m = n then x else M m
theorem upd_same {α : Type} (M : Int → α) (n : Int) (x : α) : upd M n x n = x := if_pos rfl
theorem upd_other {α : Type} (M : Int → α) {n m : Int} (x : α) (h : m ≠ n) : upd M n x m = M m := if_neg h
theorem Full.without {M : Int → Option Ty} {n : Int} {t u U : Ty} (hn : M n = none) (h : Full M u U) : U.hasV n = false → Full (upd M n (some t)) u U := by
  induction h with
  | bound k m s e l V T hk hu h' ih =>
    intro hv
    exact Full.bound k m s e l V T hk (by rw [upd_other _ _ (by rintro rfl; rw [hn] at hu; cases hu)]; exact hu) (ih hv)
  | free k m s e l hk hu =>
    intro hv
    rw [Ty.hasV_vr] at hv
    exact Full.free k m s e l hk (by rw [upd_other _ _ (by rintro rfl; simp at hv)]; exact hu)
  | args k m s e l r hk hl h' ih =>
    intro hv
    rw [Ty.hasV_mk hk] at hv
    refine Full.args k m s e l r hk hl fun i hi hr => ih i hi hr ?_
    exact Bool.eq_false_iff.2 fun hh => Bool.eq_false_iff.1 hv (List.any_eq_true.2 ⟨_, List.getElem_mem hr, hh⟩)
theorem Full.bind {M : Int → Option Ty} {n : Int} {t T u U : Ty} (hn : M n = none) (ht : Full M t T) (hv : T.hasV n = false) (h : Full M u U) : Full (upd M n (some t)) u (U.app (one n T)) := by
  induction h with
  | bound k m s e l V T' hk hu h' ih => exact Full.bound k m s e l V _ hk (by rw [upd_other _ _ (by rintro rfl; rw [hn] at hu; cases hu)]; exact hu) ih
  | free k m s e l hk hu =>
    rw [Ty.app_vr]
    by_cases hm : m = n
    · subst hm
      unfold one
      rw [if_pos rfl]
      exact Full.bound k m s e l t T hk (upd_same _ _ _) (ht.without hn hv)
    · unfold one
      rw [if_neg hm]
      exact Full.free k m s e l hk (by rw [upd_other _ _ hm]; exact hu)
  | args k m s e l r hk hl h' ih =>
    rw [Ty.app_mk hk]
    refine Full.args k m s e l _ hk (by simp [hl]) fun i hi hr => ?_
    rw [List.getElem_map]
    exact ih i hi _
def bindF (f : Int → Ty) (n : Int) (T : Ty) : Int → Ty := fun m => (f m).app (one n T)
theorem Agr.bind {M : Int → Option Ty} {f : Int → Ty} (h : Agr M f) {n : Int} {t T : Ty} (hn : M n = none) (ht : Full M t T) (hv : T.hasV n = false) : Agr (upd M n (some t)) (bindF f n T) := fun m => Full.bind hn ht hv (h m)
theorem Full.count_pos (T : Ty) : 1 ≤ T.count := by cases T; unfold Ty.count; omega
theorem Ty.countL_mem : ∀ (l : List Ty) (i : Nat) (hi : i < l.length), (l[i]'hi).count ≤ Ty.countL l
  | [], i, hi => absurd hi (Nat.not_lt_zero _)
  | a :: l, 0, _ => by simp [Ty.countL]
  | a :: l, i + 1, hi => by
    have := Ty.countL_mem l i (by simpa using hi)
    simp only [List.getElem_cons_succ, Ty.countL]
    omega
theorem Ty.count_arg {k n : Int} {s : ByteArray} {e : Int} {l : List Ty} (i : Nat) (hi : i < l.length) : (l[i]'hi).count < (Ty.mk k n s e l).count := by
  have := Ty.countL_mem l i hi
  unfold Ty.count
  unfold Ty.count at this
  omega
/-- A way to what a variable stands for may be made shorter. -/
theorem Full.shorter {M : Int → Option Ty} {n : Int} {u v X : Ty} (hn : M n = some u) (hu : Full M u X) (hv : Full M v X) (hf : v.kind = 0 → M v.num = none) : ∀ (c : Nat) {x Y : Ty}, Y.count ≤ c → Full M x Y → Full (upd M n (some v)) x Y := by
  intro c
  induction c with
  | zero => intro x Y hc; have := Full.count_pos Y; omega
  | succ c ihc =>
    have hend : X.count ≤ c + 1 → Full (upd M n (some v)) v X := by
      intro hX
      cases v with
      | mk k m s e l =>
        cases hv with
        | bound _ _ _ _ _ V _ hk hu' h' => have := hf hk; unfold Ty.num at this; rw [hu'] at this; cases this
        | free _ _ _ _ _ hk hu' => exact Full.free k m s e l hk (by rw [upd_other _ _ (by rintro rfl; rw [hn] at hu'; cases hu')]; exact hu')
        | args _ _ _ _ _ r hk hl h' =>
          refine Full.args k m s e l r hk hl fun i hi hr => ihc ?_ (h' i hi hr)
          have := Ty.count_arg (k := k) (n := m) (s := s) (e := e) i hr
          omega
    intro x Y hc h
    induction h with
    | bound k m s e l V T hk hu' h' ih =>
      by_cases hm : m = n
      · subst hm
        rw [hn] at hu'
        cases hu'
        obtain rfl := hu.det h'
        exact Full.bound k m s e l v _ hk (upd_same _ _ _) (hend hc)
      · exact Full.bound k m s e l V T hk (by rw [upd_other _ _ hm]; exact hu') (ih hc)
    | free k m s e l hk hu' => exact Full.free k m s e l hk (by rw [upd_other _ _ (by rintro rfl; rw [hn] at hu'; cases hu')]; exact hu')
    | args k m s e l r hk hl h' ih =>
      refine Full.args k m s e l r hk hl fun i hi hr => ih i hi hr ?_
      have := Ty.count_arg (k := k) (n := m) (s := s) (e := e) i hr
      omega
theorem Agr.shorter {M : Int → Option Ty} {f : Int → Ty} (h : Agr M f) {n : Int} {u v X : Ty} (hn : M n = some u) (hu : Full M u X) (hv : Full M v X) (hf : v.kind = 0 → M v.num = none) : Agr (upd M n (some v)) f :=
  fun m => Full.shorter hn hu hv hf _ (Nat.le_refl _) (h m)
end Go.Proofs.Ytbgpjaniohpfaaa
