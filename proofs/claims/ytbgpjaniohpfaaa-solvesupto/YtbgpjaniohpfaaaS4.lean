/-
  What making types the same comes to: the pairs are the same then, and nothing more than need be was said. Plain words.
-/
import Derived.Test.YtbgpjaniohpfaaaS3
namespace Go.Proofs.Ytbgpjaniohpfaaa
open Go.RowKit
mutual
/-- A type without what it says of comparing. -/
def Ty.bare : Ty → Ty
  | .mk k n s _ l => .mk k n s 0 (Ty.bareL l)
def Ty.bareL : List Ty → List Ty
  | [] => []
  | a :: l => Ty.bare a :: Ty.bareL l
end
theorem Ty.bareL_eq : ∀ l : List Ty, Ty.bareL l = l.map Ty.bare
  | [] => by unfold Ty.bareL; rfl
  | a :: l => by unfold Ty.bareL; rw [Ty.bareL_eq l]; rfl
theorem Ty.bare_mk (k n : Int) (s : ByteArray) (e : Int) (l : List Ty) : (Ty.mk k n s e l).bare = .mk k n s 0 (l.map Ty.bare) := by rw [Ty.bare, Ty.bareL_eq]
theorem bytes_eq {s t : ByteArray} (h : s.data.toList = t.data.toList) : s = t := by
  apply ByteArray.ext
  apply Array.ext'
  exact h
mutual
theorem Ty.alike_iff : ∀ (a b : Ty), a.alike b = true ↔ a.bare = b.bare
  | .mk k n s e l, .mk k' n' s' e' l' => by
    rw [Ty.bare_mk, Ty.bare_mk, Ty.alike]
    simp only [Bool.and_eq_true, beq_iff_eq]
    constructor
    · rintro ⟨⟨⟨⟨rfl, h2⟩, rfl⟩, h4⟩, h5⟩
      rw [bytes_eq h2, (Ty.alikeL_iff l l' h4).1 h5]
    · intro h
      injection h with h1 h2 h3 _ h5
      have hl : l.length = l'.length := by have := congrArg List.length h5; simpa using this
      exact ⟨⟨⟨⟨h1, by rw [h3]⟩, h2⟩, hl⟩, (Ty.alikeL_iff l l' hl).2 h5⟩
theorem Ty.alikeL_iff : ∀ (l r : List Ty), l.length = r.length → (Ty.alikeL l r = true ↔ l.map Ty.bare = r.map Ty.bare)
  | [], [], _ => by unfold Ty.alikeL; simp
  | [], _ :: _, h => by simp at h
  | _ :: _, [], h => by simp at h
  | a :: l, b :: r, h => by
    unfold Ty.alikeL
    rw [Bool.and_eq_true, Ty.alike_iff a b, Ty.alikeL_iff l r (by simpa using h)]
    simp
end
theorem Ty.bare_app (f : Int → Ty) (T : Ty) : (T.app f).bare = T.bare.app (fun n => (f n).bare) := by
  induction T using Ty.ind with
  | h k n s e l ih =>
    rw [Ty.bare_mk]
    by_cases hk : k = 0
    · rw [Ty.app_var hk, Ty.app_var hk]
    · rw [Ty.app_mk hk, Ty.app_mk hk, Ty.bare_mk, List.map_map, List.map_map]
      congr 1
      refine List.map_congr_left fun a ha => ?_
      obtain ⟨i, hi, rfl⟩ := List.mem_iff_getElem.1 ha
      exact ih i hi
mutual
theorem Ty.bare_count : ∀ T : Ty, T.bare.count = T.count
  | .mk k n s e l => by rw [Ty.bare, Ty.count, Ty.count, Ty.bareL_count l]
theorem Ty.bareL_count : ∀ l : List Ty, Ty.countL (Ty.bareL l) = Ty.countL l
  | [] => by unfold Ty.bareL; rfl
  | a :: l => by
    unfold Ty.bareL Ty.countL
    rw [Ty.bare_count a, Ty.bareL_count l]
end
theorem Ty.count_in (f : Int → Ty) (x : Int) : ∀ T : Ty, T.hasV x = true → (f x).count ≤ (T.app f).count ∧ (¬ T.kind = 0 → (f x).count < (T.app f).count) := by
  intro T
  induction T using Ty.ind with
  | h k n s e l ih =>
    intro h
    by_cases hk : k = 0
    · rw [Ty.hasV_var hk] at h
      obtain rfl : n = x := by simpa using h
      rw [Ty.app_var hk]
      exact ⟨Nat.le_refl _, fun h => absurd hk h⟩
    · rw [Ty.hasV_mk hk, List.any_eq_true] at h
      obtain ⟨a, ha, h⟩ := h
      obtain ⟨i, hi, rfl⟩ := List.mem_iff_getElem.1 ha
      rw [Ty.app_mk hk]
      have h1 := (ih i hi h).1
      have h2 := Ty.count_arg (k := k) (n := n) (s := s) (e := e) (l := l.map (Ty.app f)) i (by simpa using hi)
      rw [List.getElem_map] at h2
      exact ⟨by omega, fun _ => by omega⟩
/-- What was made the same is the same. -/
theorem Uni.sound {s s' : St} {l : List (Ty × Ty)} {e : Int} (h : Uni s l e s') : e = 0 → Good s.sub → ∀ p ∈ l, (p.1.app s'.sub).bare = (p.2.app s'.sub).bare := by
  induction h with
  | done s => intro _ _ p hp; cases hp
  | stop s a b r e h => intro h0; exact absurd h0 (St.step_stop_ne h)
  | go s s1 s2 a b r e h k ih =>
    intro h0 hg p hp
    obtain ⟨hg1, hx1⟩ := St.step_good h hg
    rcases List.mem_cons.1 hp with rfl | hp
    · have hx2 := (k.good hg1).2
      have key : a.app s1.sub = b.app s1.sub := by
        unfold St.step at h
        split at h
        · cases h
        · split at h
          · rename_i hc
            cases h
            have h1 := Ty.plain_var (hg.app_plain a) hc.1
            have h2 := Ty.plain_var (hg.app_plain b) hc.2.1
            rw [h1, h2, hc.2.2]
          · have fin : ∀ n T (u v : Ty), u.app s.sub = .vr n → v.app s.sub = T → s.stand n T = .go s1 → u.app s1.sub = v.app s1.sub := by
              intro n T u v hu hv hst
              obtain ⟨q1, q2, _⟩ := St.stand_go hst
              rw [q2, app_bindF, app_bindF, hu, hv, Ty.app_vr]
              have : one n T n = T := if_pos rfl
              rw [this]
              refine (Ty.app_one T ?_ q1).symm
              rw [← hv]
              exact hg.app_plain v
            split at h
            · rename_i hk
              exact fin _ _ a b (Ty.plain_var (hg.app_plain a) hk) rfl h
            · split at h
              · rename_i hk
                exact (fin _ _ b a (Ty.plain_var (hg.app_plain b) hk) rfl h).symm
              · split at h <;> cases h
      show (a.app s2.sub).bare = (b.app s2.sub).bare
      rw [← hx2 a, ← hx2 b, key]
    · exact ih h0 hg1 p hp
  | into s s2 a b r l e h k ih =>
    intro h0 hg p hp
    obtain ⟨rfl, hka, hkb, ht, _, _⟩ := St.step_into h
    rcases List.mem_cons.1 hp with rfl | hp
    · have hx := (k.good hg).2
      show (a.app s2.sub).bare = (b.app s2.sub).bare
      rw [← hx a, ← hx b]
      have ih' := fun p hp => ih h0 hg p (List.mem_append_left _ hp)
      generalize a.app s.sub = A at *
      generalize b.app s.sub = B at *
      cases A with
      | mk k1 n1 s1 e1 l1 =>
      cases B with
      | mk k2 n2 s2' e2 l2 =>
      simp only [Ty.top, Ty.kind, Ty.nam, Ty.num, Ty.args, Bool.and_eq_true, beq_iff_eq] at ht
      obtain ⟨⟨⟨rfl, h2⟩, rfl⟩, h4⟩ := ht
      obtain rfl := bytes_eq h2
      have hk1 : ¬ k1 = 0 := hka
      rw [Ty.app_mk hk1, Ty.app_mk hk1, Ty.bare_mk, Ty.bare_mk, List.map_map, List.map_map]
      congr 1
      refine List.ext_getElem (by simpa using h4) fun i g1 g2 => ?_
      have i1 : i < l1.length := by simpa using g1
      have i2 : i < l2.length := by simpa using g2
      rw [List.getElem_map, List.getElem_map]
      refine ih' (l1[i]'i1, l2[i]'i2) ?_
      show (l1[i]'i1, l2[i]'i2) ∈ l1.zip l2
      rw [List.mem_iff_getElem]
      exact ⟨i, by rw [List.length_zip]; omega, by simp⟩
    · exact ih h0 hg p (List.mem_append_right _ hp)
/-- Whatever makes the pairs the same does so through what was found. -/
def Thru (s : St) (f : Int → Ty) : Prop := ∀ n, ((s.sub n).app f).bare = (f n).bare
theorem Thru.app {s : St} {f : Int → Ty} (h : Thru s f) (x : Ty) : ((x.app s.sub).app f).bare = (x.app f).bare := by
  rw [Ty.app_app, Ty.bare_app, Ty.bare_app]
  exact Ty.app_same _ fun n _ => h n
theorem Uni.general {s s' : St} {l : List (Ty × Ty)} {e : Int} {f : Int → Ty} (h : Uni s l e s') : Good s.sub → Thru s f → (∀ p ∈ l, (p.1.app f).bare = (p.2.app f).bare) → Thru s' f ∧ (e = 0 ∨ e = 11 ∨ e = 12) := by
  induction h with
  | done s => exact fun _ ht _ => ⟨ht, .inl rfl⟩
  | stop s a b r e h =>
    intro hg ht hl
    refine ⟨ht, ?_⟩
    have hab := hl _ (List.mem_cons_self ..)
    have hab : (a.app f).bare = (b.app f).bare := hab
    rw [← ht.app a, ← ht.app b] at hab
    have hpa := hg.app_plain a
    have hpb := hg.app_plain b
    generalize a.app s.sub = A at *
    generalize b.app s.sub = B at *
    unfold St.step at h
    split at h
    · cases h; exact .inr (.inr rfl)
    · split at h
      · cases h
      · rename_i hns
        have circ : ∀ (U T : Ty), U.kind = 0 → U.app Ty.vr = U → T.app Ty.vr = T → ¬ (T.kind = 0 ∧ U.num = T.num) → (U.app f).bare = (T.app f).bare → s.stand U.num T = .stop e → e = 0 ∨ e = 11 ∨ e = 12 := by
          intro U T hk hU hT hne hb hst
          rcases St.stand_stop hst with ⟨_, hv⟩ | h
          · exfalso
            have hU' := Ty.plain_var hU hk
            have hkT : ¬ T.kind = 0 := by
              intro hk2
              have hT' := Ty.plain_var hT hk2
              rw [hT', Ty.hasV_vr] at hv
              exact hne ⟨hk2, (by simpa using hv : T.num = U.num).symm⟩
            have h1 := (Ty.count_in f U.num T hv).2 hkT
            have h2 := congrArg Ty.count hb
            rw [Ty.bare_count, Ty.bare_count, hU', Ty.app_vr] at h2
            have h3 : (Ty.vr U.num).num = U.num := rfl
            omega
          · exact .inr (.inl h)
        split at h
        · rename_i hk
          exact circ A B hk hpa hpb (fun hh => hns ⟨hk, hh.1, hh.2⟩) hab h
        · rename_i hka
          split at h
          · rename_i hk
            exact circ B A hk hpb hpa (fun hh => hka hh.1) hab.symm h
          · rename_i hkb
            split at h
            · cases h
            · rename_i htop
              exfalso
              refine htop ?_
              cases A with
              | mk k1 n1 s1 e1 l1 =>
              cases B with
              | mk k2 n2 s2 e2 l2 =>
              have g1 : ¬ k1 = 0 := hka
              have g2 : ¬ k2 = 0 := hkb
              rw [Ty.app_mk g1, Ty.app_mk g2, Ty.bare_mk, Ty.bare_mk] at hab
              injection hab with q1 q2 q3 _ q5
              have hll : l1.length = l2.length := by have := congrArg List.length q5; simpa using this
              simp [Ty.top, Ty.kind, Ty.nam, Ty.num, Ty.args, q1, q2, q3, hll]
  | go s s1 s2 a b r e h k ih =>
    intro hg ht hl
    have hab : (a.app f).bare = (b.app f).bare := hl _ (List.mem_cons_self ..)
    refine ih (St.step_good h hg).1 ?_ (fun p hp => hl p (List.mem_cons_of_mem _ hp))
    rcases St.step_go h with rfl | ⟨n, T, hc, hv, hs⟩
    · exact ht
    · have hT : (f n).bare = (T.app f).bare := by
        rw [← ht.app a, ← ht.app b] at hab
        rcases hc with ⟨hk, rfl, rfl⟩ | ⟨hk, rfl, rfl⟩
        · have h1 := Ty.plain_var (hg.app_plain a) hk
          rw [h1, Ty.app_vr] at hab
          exact hab
        · have h1 := Ty.plain_var (hg.app_plain b) hk
          rw [h1, Ty.app_vr] at hab
          exact hab.symm
      intro m
      rw [hs]
      show (((s.sub m).app (one n T)).app f).bare = (f m).bare
      rw [Ty.app_app, Ty.bare_app, ← ht m, Ty.bare_app]
      refine Ty.app_same _ fun k _ => ?_
      show ((one n T k).app f).bare = (f k).bare
      unfold one
      split
      · rename_i hk
        rw [hk]
        exact hT.symm
      · rw [Ty.app_vr]
  | into s s2 a b r l e h k ih =>
    intro hg ht hl
    have hab : (a.app f).bare = (b.app f).bare := hl _ (List.mem_cons_self ..)
    obtain ⟨rfl, hka, hkb, htop, _, _⟩ := St.step_into h
    refine ih hg ht fun p hp => ?_
    rcases List.mem_append.1 hp with hp | hp
    · rw [← ht.app a, ← ht.app b] at hab
      generalize a.app s.sub = A at *
      generalize b.app s.sub = B at *
      cases A with
      | mk k1 n1 s1 e1 l1 =>
      cases B with
      | mk k2 n2 s2' e2 l2 =>
      have g1 : ¬ k1 = 0 := hka
      have g2 : ¬ k2 = 0 := hkb
      rw [Ty.app_mk g1, Ty.app_mk g2, Ty.bare_mk, Ty.bare_mk] at hab
      injection hab with _ _ _ _ q5
      rw [List.map_map, List.map_map] at q5
      have hp : p ∈ l1.zip l2 := hp
      obtain ⟨i, hi, rfl⟩ := List.mem_iff_getElem.1 hp
      have hi' : i < l1.length ∧ i < l2.length := by rw [List.length_zip] at hi; omega
      have := congrArg (fun l => l[i]?) q5
      simp only [List.getElem?_map, List.getElem?_eq_getElem hi'.1, List.getElem?_eq_getElem hi'.2, Option.map_some, Option.some.injEq] at this
      simpa using this
    · exact hl p (List.mem_cons_of_mem _ hp)
end Go.Proofs.Ytbgpjaniohpfaaa
