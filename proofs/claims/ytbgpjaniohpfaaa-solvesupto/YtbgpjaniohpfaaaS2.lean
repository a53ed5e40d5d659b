/-
  Making types the same, in plain words: what is done step by step, and what stays true all the while. No program is named here.
-/
import Derived.Test.YtbgpjaniohpfaaaS1
namespace Go.Proofs.Ytbgpjaniohpfaaa
mutual
/-- A type's values are compared: which variables become such, and whether it goes. -/
def Ty.cmp : Ty → (Int → Int) → Bool × (Int → Int)
  | .mk k n _ e l, q => if k = 0 then (true, upd q n 1) else if k = 3 ∨ (k = 1 ∧ e = 0) then (false, q) else if k = 1 ∧ e = 2 then (true, q) else Ty.cmpL l q
def Ty.cmpL : List Ty → (Int → Int) → Bool × (Int → Int)
  | [], q => (true, q)
  | a :: l, q => if (Ty.cmp a q).1 = true then Ty.cmpL l (Ty.cmp a q).2 else (false, (Ty.cmp a q).2)
end
/-- What variables are, and which of them are of compared types. -/
structure St where
  sub : Int → Ty
  eq : Int → Int
inductive Step where
  | stop (e : Int)
  | go (s : St)
  | into (l : List (Ty × Ty))
def St.stand (s : St) (n : Int) (T : Ty) : Step :=
  if T.hasV n = true then .stop 10
  else if s.eq n = 1 then (if (T.cmp s.eq).1 = true then .go ⟨bindF s.sub n T, (T.cmp s.eq).2⟩ else .stop 11)
  else .go ⟨bindF s.sub n T, s.eq⟩
def Ty.top (A B : Ty) : Bool := A.kind == B.kind && A.nam.data.toList == B.nam.data.toList && A.num == B.num && A.args.length == B.args.length
def St.step (s : St) (A B : Ty) : Step :=
  if 400 < A.count ∨ 400 < B.count then .stop 12
  else if A.kind = 0 ∧ B.kind = 0 ∧ A.num = B.num then .go s
  else if A.kind = 0 then s.stand A.num B
  else if B.kind = 0 then s.stand B.num A
  else if A.top B = true then .into (A.args.zip B.args) else .stop 9
/-- Pairs made the same one behind the other. -/
inductive Uni : St → List (Ty × Ty) → Int → St → Prop
  | done (s : St) : Uni s [] 0 s
  | stop (s : St) (a b : Ty) (r : List (Ty × Ty)) (e : Int) (h : s.step (a.app s.sub) (b.app s.sub) = .stop e) : Uni s ((a, b) :: r) e s
  | go (s s1 s' : St) (a b : Ty) (r : List (Ty × Ty)) (e : Int) (h : s.step (a.app s.sub) (b.app s.sub) = .go s1) (k : Uni s1 r e s') : Uni s ((a, b) :: r) e s'
  | into (s s' : St) (a b : Ty) (r l : List (Ty × Ty)) (e : Int) (h : s.step (a.app s.sub) (b.app s.sub) = .into l) (k : Uni s (l ++ r) e s') : Uni s ((a, b) :: r) e s'
theorem St.stand_stop {s : St} {n : Int} {T : Ty} {e : Int} (h : s.stand n T = .stop e) : (e = 10 ∧ T.hasV n = true) ∨ e = 11 := by
  unfold St.stand at h
  split at h
  · rename_i h1
    cases h
    exact .inl ⟨rfl, h1⟩
  · split at h
    · split at h
      · cases h
      · cases h
        exact .inr rfl
    · cases h
theorem St.step_stop {s : St} {A B : Ty} {e : Int} (h : s.step A B = .stop e) : e = 12 ∨ e = 11 ∨ e = 10 ∨ e = 9 := by
  unfold St.step at h
  split at h
  · cases h; exact .inl rfl
  · split at h
    · cases h
    · split at h
      · rcases St.stand_stop h with h | h
        · exact .inr (.inr (.inl h.1))
        · exact .inr (.inl h)
      · split at h
        · rcases St.stand_stop h with h | h
          · exact .inr (.inr (.inl h.1))
          · exact .inr (.inl h)
        · split at h
          · cases h
          · cases h; exact .inr (.inr (.inr rfl))
theorem St.step_stop_ne {s : St} {A B : Ty} {e : Int} (h : s.step A B = .stop e) : ¬ e = 0 := by
  have := St.step_stop h
  omega
theorem Uni.then {s s1 : St} {l : List (Ty × Ty)} {e0 : Int} (h : Uni s l e0 s1) : e0 = 0 → ∀ {r : List (Ty × Ty)} {e : Int} {s' : St}, Uni s1 r e s' → Uni s (l ++ r) e s' := by
  induction h with
  | done s => intro _ r e s' k; exact k
  | stop s a b r e h => intro h0; exact absurd h0 (St.step_stop_ne h)
  | go s s1 s2 a b r e h k ih => intro h0 r' e' s' k'; exact Uni.go _ _ _ _ _ _ _ h (ih h0 k')
  | into s s2 a b r l e h k ih =>
    intro h0 r' e' s' k'
    refine Uni.into _ _ _ _ _ _ _ h ?_
    show Uni s (l ++ (r ++ r')) e' s'
    rw [← List.append_assoc]
    exact ih h0 k'
theorem Uni.fail {s s' : St} {l : List (Ty × Ty)} {e : Int} (h : Uni s l e s') : ¬ e = 0 → ∀ r : List (Ty × Ty), Uni s (l ++ r) e s' := by
  induction h with
  | done s => intro h; exact absurd rfl h
  | stop s a b r e h => intro _ r'; exact Uni.stop _ _ _ _ _ h
  | go s s1 s2 a b r e h k ih => intro h0 r'; exact Uni.go _ _ _ _ _ _ _ h (ih h0 r')
  | into s s2 a b r l e h k ih =>
    intro h0 r'
    refine Uni.into _ _ _ _ _ _ _ h ?_
    show Uni s (l ++ (r ++ r')) e s2
    rw [← List.append_assoc]
    exact ih h0 r'
theorem Uni.det {s s' : St} {l : List (Ty × Ty)} {e : Int} (h : Uni s l e s') : ∀ {e2 : Int} {s2 : St}, Uni s l e2 s2 → e = e2 ∧ s' = s2 := by
  induction h with
  | done s => intro e2 s2 k; cases k; exact ⟨rfl, rfl⟩
  | stop s a b r e h =>
    intro e2 s2 k
    cases k with
    | stop _ _ _ _ _ h' => rw [h] at h'; cases h'; exact ⟨rfl, rfl⟩
    | go _ _ _ _ _ _ _ h' _ => rw [h] at h'; cases h'
    | into _ _ _ _ _ _ _ h' _ => rw [h] at h'; cases h'
  | go s s1 s3 a b r e h k ih =>
    intro e2 s2 k2
    cases k2 with
    | stop _ _ _ _ _ h' => rw [h] at h'; cases h'
    | go _ _ _ _ _ _ _ h' k' => rw [h] at h'; cases h'; exact ih k'
    | into _ _ _ _ _ _ _ h' _ => rw [h] at h'; cases h'
  | into s s3 a b r l e h k ih =>
    intro e2 s2 k2
    cases k2 with
    | stop _ _ _ _ _ h' => rw [h] at h'; cases h'
    | go _ _ _ _ _ _ _ h' k' => rw [h] at h'; cases h'
    | into _ _ _ _ _ _ _ h' k' => rw [h] at h'; cases h'; exact ih k'
theorem Uni.like {s s' : St} {a b a' b' : Ty} {r : List (Ty × Ty)} {e : Int} (h : Uni s ((a, b) :: r) e s') (ha : a.app s.sub = a'.app s.sub) (hb : b.app s.sub = b'.app s.sub) : Uni s ((a', b') :: r) e s' := by
  cases h with
  | stop _ _ _ _ _ h => exact Uni.stop _ _ _ _ _ (by rw [← ha, ← hb]; exact h)
  | go _ _ _ _ _ _ _ h k => exact Uni.go _ _ _ _ _ _ _ (by rw [← ha, ← hb]; exact h) k
  | into _ _ _ _ _ _ _ h k => exact Uni.into _ _ _ _ _ _ _ (by rw [← ha, ← hb]; exact h) k
/-- Replaced whole, and no more said of variables than their numbers. -/
structure Good (f : Int → Ty) : Prop where
  idem : ∀ n, (f n).app f = f n
  plain : ∀ n, (f n).app Ty.vr = f n
theorem Agr.good {M : Int → Option Ty} {f : Int → Ty} (h : Agr M f) : Good f := ⟨fun n => h.still (h n), fun n => (h n).plain⟩
theorem Good.app {f : Int → Ty} (h : Good f) (t : Ty) : (t.app f).app f = t.app f := by
  rw [Ty.app_app]
  exact Ty.app_same t fun n _ => h.idem n
theorem Good.app_plain {f : Int → Ty} (h : Good f) (t : Ty) : (t.app f).app Ty.vr = t.app f := by
  rw [Ty.app_app]
  exact Ty.app_same t fun n _ => h.plain n
theorem Ty.plain_var {A : Ty} (h : A.app Ty.vr = A) (hk : A.kind = 0) : A = .vr A.num := by
  cases A with
  | mk k n s e l =>
    unfold Ty.kind at hk
    rw [Ty.app_var hk] at h
    exact h.symm
theorem Good.free {f : Int → Ty} {A : Ty} (h : A.app Ty.vr = A) (h2 : A.app f = A) (hk : A.kind = 0) : f A.num = .vr A.num := by
  have e := Ty.plain_var h hk
  rw [e, Ty.app_vr] at h2
  exact h2
theorem app_bindF (f : Int → Ty) (n : Int) (T x : Ty) : x.app (bindF f n T) = (x.app f).app (one n T) := by
  rw [Ty.app_app]
  rfl
theorem one_bind {f : Int → Ty} {n : Int} {T : Ty} (hn : f n = .vr n) (hT : T.app f = T) (hp : T.app Ty.vr = T) (hv : T.hasV n = false) (Y : Ty) (hY : Y.app f = Y) : (Y.app (one n T)).app (bindF f n T) = Y.app (one n T) := by
  rw [Ty.app_app]
  have h1 : (fun m => (one n T m).app (bindF f n T)) = bindF f n T := by
    funext m
    by_cases hm : m = n
    · subst hm
      have : one m T m = T := if_pos rfl
      rw [this, app_bindF, hT, Ty.app_one T hp hv]
      unfold bindF
      rw [hn, Ty.app_vr]
      exact this.symm
    · have : one n T m = .vr m := if_neg hm
      rw [this, Ty.app_vr]
  rw [h1, app_bindF, hY]
theorem Good.bind {f : Int → Ty} {n : Int} {T : Ty} (hf : Good f) (hn : f n = .vr n) (hT : T.app f = T) (hp : T.app Ty.vr = T) (hv : T.hasV n = false) : Good (bindF f n T) := by
  refine ⟨fun m => one_bind hn hT hp hv (f m) (hf.idem m), fun m => ?_⟩
  show ((f m).app (one n T)).app Ty.vr = (f m).app (one n T)
  rw [Ty.app_app]
  refine Ty.app_same _ fun k _ => ?_
  unfold one
  split
  · exact hp
  · exact Ty.app_vr _ _
/-- A later state goes on from an earlier one. -/
def Ext (s s' : St) : Prop := ∀ x : Ty, (x.app s.sub).app s'.sub = x.app s'.sub
theorem Ext.refl {s : St} (h : Good s.sub) : Ext s s := fun x => h.app x
theorem Ext.trans {s s1 s2 : St} (h : Ext s s1) (k : Ext s1 s2) : Ext s s2 := fun x => by rw [← k (x.app s.sub), h x, k x]
theorem St.stand_go {s s1 : St} {n : Int} {T : Ty} (h : s.stand n T = .go s1) : T.hasV n = false ∧ s1.sub = bindF s.sub n T ∧ ((s.eq n = 1 ∧ (T.cmp s.eq).1 = true ∧ s1.eq = (T.cmp s.eq).2) ∨ (¬ s.eq n = 1 ∧ s1.eq = s.eq)) := by
  unfold St.stand at h
  split at h
  · cases h
  · rename_i h1
    have h1 : T.hasV n = false := by simpa using h1
    split at h
    · rename_i h2
      split at h
      · rename_i h3
        cases h
        exact ⟨h1, rfl, .inl ⟨h2, h3, rfl⟩⟩
      · cases h
    · rename_i h2
      cases h
      exact ⟨h1, rfl, .inr ⟨h2, rfl⟩⟩
/-- One step that goes: nothing happened, or a variable that stood for nothing stands for a type now. -/
theorem St.step_go {s s1 : St} {A B : Ty} (h : s.step A B = .go s1) : s1 = s ∨ (∃ n T, ((A.kind = 0 ∧ n = A.num ∧ T = B) ∨ (B.kind = 0 ∧ n = B.num ∧ T = A)) ∧ T.hasV n = false ∧ s1.sub = bindF s.sub n T) := by
  unfold St.step at h
  split at h
  · cases h
  · split at h
    · cases h; exact .inl rfl
    · split at h
      · rename_i hk
        obtain ⟨h1, h2, _⟩ := St.stand_go h
        exact .inr ⟨_, _, .inl ⟨hk, rfl, rfl⟩, h1, h2⟩
      · split at h
        · rename_i hk
          obtain ⟨h1, h2, _⟩ := St.stand_go h
          exact .inr ⟨_, _, .inr ⟨hk, rfl, rfl⟩, h1, h2⟩
        · split at h <;> cases h
theorem St.step_good {s s1 : St} {a b : Ty} (h : s.step (a.app s.sub) (b.app s.sub) = .go s1) (hg : Good s.sub) : Good s1.sub ∧ Ext s s1 := by
  rcases St.step_go h with rfl | ⟨n, T, hc, hv, hs⟩
  · exact ⟨hg, Ext.refl hg⟩
  · have hT : T.app s.sub = T ∧ T.app Ty.vr = T ∧ s.sub n = .vr n := by
      rcases hc with ⟨hk, rfl, rfl⟩ | ⟨hk, rfl, rfl⟩
      · exact ⟨hg.app b, hg.app_plain b, Good.free (hg.app_plain a) (hg.app a) hk⟩
      · exact ⟨hg.app a, hg.app_plain a, Good.free (hg.app_plain b) (hg.app b) hk⟩
    obtain ⟨h1, h2, h3⟩ := hT
    refine ⟨by rw [hs]; exact hg.bind h3 h1 h2 hv, fun x => ?_⟩
    rw [hs, app_bindF, app_bindF, hg.app]
theorem Uni.good {s s' : St} {l : List (Ty × Ty)} {e : Int} (h : Uni s l e s') : Good s.sub → Good s'.sub ∧ Ext s s' := by
  induction h with
  | done s => exact fun hg => ⟨hg, Ext.refl hg⟩
  | stop s a b r e h => exact fun hg => ⟨hg, Ext.refl hg⟩
  | go s s1 s2 a b r e h k ih =>
    intro hg
    obtain ⟨h1, h2⟩ := St.step_good h hg
    obtain ⟨h3, h4⟩ := ih h1
    exact ⟨h3, h2.trans h4⟩
  | into s s2 a b r l e h k ih => exact ih
/-- All variables of a type, replaced, are among some. -/
def Over (V : List Int) (f : Int → Ty) (t : Ty) : Prop := ∀ m, (t.app f).hasV m = true → m ∈ V
theorem St.step_into {s : St} {A B : Ty} {l : List (Ty × Ty)} (h : s.step A B = .into l) : l = A.args.zip B.args ∧ ¬ A.kind = 0 ∧ ¬ B.kind = 0 ∧ A.top B = true ∧ A.count ≤ 400 ∧ B.count ≤ 400 := by
  have hs : ∀ n T, s.stand n T ≠ .into l := by
    intro n T h
    unfold St.stand at h
    split at h
    · cases h
    · split at h
      · split at h <;> cases h
      · cases h
  unfold St.step at h
  split at h
  · cases h
  · rename_i hc
    split at h
    · cases h
    · split at h
      · exact absurd h (hs _ _)
      · rename_i h1
        split at h
        · exact absurd h (hs _ _)
        · rename_i h2
          split at h
          · rename_i h3
            cases h
            exact ⟨rfl, h1, h2, h3, by omega, by omega⟩
          · cases h
theorem Over.arg {V : List Int} {f : Int → Ty} {A x : Ty} (hA : A.app f = A) (hk : ¬ A.kind = 0) (h : ∀ m, A.hasV m = true → m ∈ V) (hx : x ∈ A.args) : Over V f x := by
  cases A with
  | mk k n s e l =>
    have hk : ¬ k = 0 := hk
    have hx : x ∈ l := hx
    rw [Ty.app_mk hk] at hA
    have hl : l.map (Ty.app f) = l := by injection hA
    obtain ⟨i, hi, rfl⟩ := List.mem_iff_getElem.1 hx
    have he : (l[i]'hi).app f = l[i]'hi := by
      have : (l.map (Ty.app f))[i]'(by simpa using hi) = l[i]'hi := by simp only [hl]
      rwa [List.getElem_map] at this
    intro m hm
    rw [he] at hm
    refine h m ?_
    rw [Ty.hasV_mk hk, List.any_eq_true]
    exact ⟨_, hx, hm⟩
theorem St.step_over {V : List Int} {s s1 : St} {a b x : Ty} (h : s.step (a.app s.sub) (b.app s.sub) = .go s1) (ha : Over V s.sub a) (hb : Over V s.sub b) (hx : Over V s.sub x) : Over V s1.sub x := by
  rcases St.step_go h with rfl | ⟨n, T, hc, hv, hs⟩
  · exact hx
  · intro m hm
    rw [hs, app_bindF] at hm
    obtain ⟨k, hk, hm2⟩ := Ty.hasV_app m _ hm
    clear hm
    unfold one at hm2
    split at hm2
    · rcases hc with ⟨_, rfl, rfl⟩ | ⟨_, rfl, rfl⟩
      · exact hb m hm2
      · exact ha m hm2
    · rw [Ty.hasV_vr] at hm2
      obtain rfl : k = m := by simpa using hm2
      exact hx k hk
theorem Uni.over {V : List Int} {s s' : St} {l : List (Ty × Ty)} {e : Int} (h : Uni s l e s') : Good s.sub → (∀ p ∈ l, Over V s.sub p.1 ∧ Over V s.sub p.2) → ∀ x, Over V s.sub x → Over V s'.sub x := by
  induction h with
  | done s => exact fun _ _ x hx => hx
  | stop s a b r e h => exact fun _ _ x hx => hx
  | go s s1 s2 a b r e h k ih =>
    intro hg hl x hx
    obtain ⟨ha, hb⟩ := hl _ (List.mem_cons_self ..)
    refine ih (St.step_good h hg).1 (fun p hp => ?_) x (St.step_over h ha hb hx)
    obtain ⟨h1, h2⟩ := hl p (List.mem_cons_of_mem _ hp)
    exact ⟨St.step_over h ha hb h1, St.step_over h ha hb h2⟩
  | into s s2 a b r l e h k ih =>
    intro hg hl x hx
    obtain ⟨ha, hb⟩ := hl _ (List.mem_cons_self ..)
    obtain ⟨rfl, hka, hkb, _, _, _⟩ := St.step_into h
    refine ih hg (fun p hp => ?_) x hx
    rcases List.mem_append.1 hp with hp | hp
    · obtain ⟨p1, p2⟩ := p
      obtain ⟨h1, h2⟩ := List.of_mem_zip hp
      exact ⟨Over.arg (hg.app a) hka ha h1, Over.arg (hg.app b) hkb hb h2⟩
    · exact hl p (List.mem_cons_of_mem _ hp)
end Go.Proofs.Ytbgpjaniohpfaaa
