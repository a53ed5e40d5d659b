/-
  What Solve's answer says, in the law's own words.
-/
import Derived.Test.YtbgpjaniohpfaaaK18
import Derived.Test.YtbgpjaniohpfaaaK19
namespace Go.Proofs.Ytbgpjaniohpfaaa
open Go.RowKit Go.Deep
def tauOf (Sm : List (Int × Ty)) : Int → Ty := fun n => (putF Sm n).getD (.vr n)
theorem put_bare (Sm : List (Int × Ty)) : ∀ T : Ty, T.shaped = true → (T.put Sm).bare = (T.app (tauOf Sm)).bare := by
  intro T
  induction T using Ty.ind with
  | h k n s e l ih =>
    intro hs
    by_cases hk : k = 0
    · have hh : l = [] ∧ s = ({ data := #[] } : ByteArray) := by
        unfold Ty.shaped at hs
        rw [if_pos hk] at hs
        simp at hs
        exact ⟨hs.1.1.1.1, hs.1.1.1.2⟩
      rw [Ty.put_var hk, Ty.app_var hk]
      unfold tauOf
      cases putF Sm n with
      | some T => rfl
      | none =>
        simp only [Option.getD_none]
        rw [hh.1, hh.2, hk]
        unfold Ty.vr
        rw [Ty.bare_mk, Ty.bare_mk]
    · rw [Ty.put_mk hk, Ty.app_mk hk, Ty.bare_mk, Ty.bare_mk, List.map_map, List.map_map]
      congr 1
      refine List.map_congr_left fun a ha => ?_
      obtain ⟨i, hi, rfl⟩ := List.mem_iff_getElem.1 ha
      exact ih i hi (shaped_arg hs i hi)
theorem put_mkv (Sm : List (Int × Ty)) (q : Int → Int) : ∀ T : Ty, ((T.app (mkv q)).put Sm).bare = (T.app (tauOf Sm)).bare := by
  intro T
  induction T using Ty.ind with
  | h k n s e l ih =>
    by_cases hk : k = 0
    · rw [Ty.app_var hk, Ty.app_var hk]
      unfold mkv tauOf
      rw [Ty.put_var rfl]
      cases putF Sm n with
      | some T => rfl
      | none =>
        simp only [Option.getD_none]
        unfold Ty.vr
        rw [Ty.bare_mk, Ty.bare_mk]
    · rw [Ty.app_mk hk, Ty.app_mk hk, Ty.put_mk hk, Ty.bare_mk, Ty.bare_mk, List.map_map, List.map_map, List.map_map]
      congr 1
      refine List.map_congr_left fun a ha => ?_
      obtain ⟨i, hi, rfl⟩ := List.mem_iff_getElem.1 ha
      exact ih i hi
theorem bare_mkv (q : Int → Int) (T : Ty) : (T.app (mkv q)).bare = (T.app Ty.vr).bare := by
  rw [Ty.bare_app, Ty.bare_app]
  refine Ty.app_same _ fun n _ => ?_
  unfold mkv Ty.vr
  rw [Ty.bare_mk, Ty.bare_mk]
theorem count_mkv (q : Int → Int) (T : Ty) : (T.app (mkv q)).count = (T.app Ty.vr).count := by rw [← Ty.bare_count, bare_mkv, Ty.bare_count]
theorem putF_map (zs : List Int) (g : Int → Ty) (n : Int) : putF (zs.map (fun x => (x, g x))) n = if n ∈ zs then some (g n) else none := by
  unfold putF
  induction zs with
  | nil => simp
  | cons a zs ih =>
    rw [List.map_cons, List.find?_cons]
    by_cases h : a = n
    · subst h; simp
    · have : ((a, g a).1 == n) = false := by simpa using h
      rw [this]
      simp only [ih]
      have : (n ∈ a :: zs) ↔ n ∈ zs := by
        rw [List.mem_cons]
        exact ⟨fun hh => by rcases hh with hh | hh; exact absurd hh.symm h; exact hh, .inr⟩
      simp only [this]
/-- What the law asks of Solve's answer. -/
structure Answer (ps : List (Ty × Ty)) (kind : Int) (Bs : List (Int × Ty)) : Prop where
  ok : kind = 0 → (∀ p ∈ ps, p.1.proper = true ∧ p.2.proper = true) ∧ (∀ p ∈ ps, (p.1.put Bs).bare = (p.2.put Bs).bare)
  arg : (∃ p ∈ ps, ¬ (p.1.proper = true ∧ p.2.proper = true)) → kind = 21
  some : (∀ p ∈ ps, p.1.proper = true ∧ p.2.proper = true) → ∀ Sm : List (Int × Ty), (∀ p ∈ ps, (p.1.put Sm).bare = (p.2.put Sm).bare) → (kind = 0 ∨ kind = 11 ∨ kind = 12) ∧ (kind = 0 → ∀ b ∈ Bs, ((Ty.mk 0 b.1 { data := #[] } 0 []).put Sm).bare = (b.2.put Sm).bare)
theorem proper_shaped {T : Ty} (h : T.proper = true) : T.shaped = true := ((Ty.proper_iff T).1 h).2
theorem thru_start (ps : List (Ty × Ty)) (f : Int → Ty) : Thru (St.start ps) f := fun n => by
  show ((Ty.vr n).app f).bare = (f n).bare
  rw [Ty.app_vr]
theorem good_start (ps : List (Ty × Ty)) : Good (St.start ps).sub := Agr.none.good
theorem some_app {ps : List (Ty × Ty)} (hp : ∀ p ∈ ps, p.1.proper = true ∧ p.2.proper = true) {Sm : List (Int × Ty)} (h : ∀ p ∈ ps, (p.1.put Sm).bare = (p.2.put Sm).bare) : ∀ p ∈ ps, (p.1.app (tauOf Sm)).bare = (p.2.app (tauOf Sm)).bare := by
  intro p hpp
  rw [← put_bare Sm p.1 (proper_shaped (hp p hpp).1), ← put_bare Sm p.2 (proper_shaped (hp p hpp).2)]
  exact h p hpp
theorem Answer.of_fail {ps : List (Ty × Ty)} {i : Nat} (hi : i < ps.length) {s1 s2 : St} {e : Int} (hp : ∀ p ∈ ps, p.1.proper = true ∧ p.2.proper = true) (h1 : Uni (St.start ps) (ps.take i) 0 s1) (h2 : Uni s1 [ps[i]'hi] e s2) (h0 : ¬ e = 0) : Answer ps e [] := by
  refine ⟨fun h => absurd h h0, ?_, ?_⟩
  · rintro ⟨p, hpp, hn⟩
    exact absurd (hp p hpp) hn
  · intro _ Sm hs
    have hs' := some_app hp hs
    have g1 := h1.general (good_start ps) (thru_start ps (tauOf Sm)) (fun p hpp => hs' p (List.mem_of_mem_take hpp))
    have g2 := h2.general (h1.good (good_start ps)).1 g1.1 (fun p hpp => by
      obtain rfl : p = ps[i]'hi := by simpa using hpp
      exact hs' _ (List.getElem_mem hi))
    exact ⟨g2.2, fun h => absurd h h0⟩
theorem Answer.of_big {ps : List (Ty × Ty)} (hp : ∀ p ∈ ps, p.1.proper = true ∧ p.2.proper = true) : Answer ps 12 [] := by
  refine ⟨fun h => by omega, ?_, fun _ _ _ => ⟨.inr (.inr rfl), fun h => by omega⟩⟩
  rintro ⟨p, hpp, hn⟩
  exact absurd (hp p hpp) hn
theorem Answer.of_arg {ps : List (Ty × Ty)} {i : Nat} (hi : i < ps.length) (h2 : ¬ ((ps[i]'hi).1.proper = true ∧ (ps[i]'hi).2.proper = true)) : Answer ps 21 [] :=
  ⟨fun h => by omega, fun _ => rfl, fun hp => absurd (hp _ (List.getElem_mem hi)) h2⟩
theorem Answer.of_ok {ps : List (Ty × Ty)} {s1 : St} (hp : ∀ p ∈ ps, p.1.proper = true ∧ p.2.proper = true) (h1 : Uni (St.start ps) ps 0 s1) {zs : List Int} (hz : ∀ x, x ∈ zs ↔ x ∈ allVars ps) : Answer ps 0 (zs.map (fun x => (x, (s1.sub x).app (mkv s1.eq)))) := by
  have hg := (h1.good (good_start ps)).1
  refine ⟨fun _ => ⟨hp, ?_⟩, ?_, ?_⟩
  · have key : ∀ p ∈ ps, ∀ T, (T = p.1 ∨ T = p.2) → (T.put (zs.map (fun x => (x, (s1.sub x).app (mkv s1.eq))))).bare = (T.app s1.sub).bare := by
      intro p hpp T hT
      have hsh : T.shaped = true := by
        rcases hT with rfl | rfl
        · exact proper_shaped (hp p hpp).1
        · exact proper_shaped (hp p hpp).2
      rw [put_bare _ T hsh, Ty.bare_app, Ty.bare_app]
      have hT' : ∀ n, T.bare.hasV n = true → n ∈ allVars ps := by
        intro n hn
        have hb : ∀ U : Ty, U.bare.hasV n = U.hasV n := by
          intro U
          induction U using Ty.ind with
          | h k m s e l ih =>
            rw [Ty.bare_mk]
            by_cases hk : k = 0
            · rw [Ty.hasV_var hk, Ty.hasV_var hk]
            · rw [Ty.hasV_mk hk, Ty.hasV_mk hk, List.any_map]
              rw [Bool.eq_iff_iff, List.any_eq_true, List.any_eq_true]
              constructor
              · rintro ⟨a, ha, h⟩
                obtain ⟨i, hi, rfl⟩ := List.mem_iff_getElem.1 ha
                exact ⟨_, ha, by rw [← ih i hi]; exact h⟩
              · rintro ⟨a, ha, h⟩
                obtain ⟨i, hi, rfl⟩ := List.mem_iff_getElem.1 ha
                exact ⟨_, ha, by show Ty.hasV n (Ty.bare _) = true; rw [ih i hi]; exact h⟩
        rw [hb] at hn
        refine (mem_allVars n ps).2 ⟨p, hpp, ?_⟩
        rcases hT with rfl | rfl
        · exact .inl hn
        · exact .inr hn
      refine Ty.app_same _ fun n hn => ?_
      show (tauOf _ n).bare = (s1.sub n).bare
      unfold tauOf
      rw [putF_map, if_pos ((hz n).2 (hT' n hn))]
      show ((s1.sub n).app (mkv s1.eq)).bare = _
      rw [bare_mkv, hg.plain]
    intro p hpp
    rw [key p hpp p.1 (.inl rfl), key p hpp p.2 (.inr rfl)]
    exact h1.sound rfl (good_start ps) p hpp
  · rintro ⟨p, hpp, hn⟩
    exact absurd (hp p hpp) hn
  · intro _ Sm hs
    have hs' := some_app hp hs
    have g1 := h1.general (good_start ps) (thru_start ps (tauOf Sm)) hs'
    refine ⟨.inl rfl, fun _ b hb => ?_⟩
    obtain ⟨x, _, rfl⟩ := List.mem_map.1 hb
    show ((Ty.mk 0 x { data := #[] } 0 []).put Sm).bare = (((s1.sub x).app (mkv s1.eq)).put Sm).bare
    rw [put_mkv, g1.1 x, put_bare Sm _ (var_shaped x), Ty.app_var rfl]
theorem bindRow_at {P : Nat → Prop} {w : World} : ∀ (L : List (Int × List Value × Ty)), TysAt P w (L.map (·.2)) → ∀ i (hi : i < L.length) (j : Nat), j < 6 → (bindRow L)[i * 6 + j]? = (.int .i64 (L[i]'hi).1 :: (L[i]'hi).2.1)[j]?
  | [], _, i, hi, _, _ => absurd hi (Nat.not_lt_zero _)
  | x :: L, h, 0, hi, j, hj => by
    unfold bindRow
    have hl := (h x.2 (List.mem_map.2 ⟨x, List.mem_cons_self .., rfl⟩)).len
    rw [List.flatMap_cons, List.getElem?_append_left (by simp [hl]; omega)]
    simp
  | x :: L, h, i + 1, hi, j, hj => by
    have ih := bindRow_at L (fun y hy => h y (by rw [List.map_cons]; exact List.mem_cons_of_mem _ hy)) i (by simpa using hi) j hj
    have hl := (h x.2 (List.mem_map.2 ⟨x, List.mem_cons_self .., rfl⟩)).len
    unfold bindRow at ih ⊢
    have hl6 : (Value.int .i64 x.1 :: x.2.1).length = 6 := by simp [hl]
    rw [List.flatMap_cons, List.getElem?_append_right (by rw [hl6]; omega), hl6, show (i + 1) * 6 + j - 6 = i * 6 + j from by omega, ih]
    simp
theorem binds_row {P : Nat → Prop} {w : World} {base : Nat} {v : Value} {L : List (Int × List Value × Ty)} (ho : w.ownsRow base 35 6 v L.length (bindRow L)) (hL : TysAt P w (L.map (·.2))) : ∃ p cap, v = .slice p (L.map (fun x => (x.1, x.2.2))).length cap ∧ BindsRow w p (L.map (fun x => (x.1, x.2.2))) := by
  have hlm : (L.map (fun x => (x.1, x.2.2))).length = L.length := by simp
  rcases ho.2 with ⟨rfl, h0⟩ | ⟨g, cap, cur, rfl, h1, h2, h3, h4, h5, h6⟩
  · have : L = [] := List.eq_nil_of_length_eq_zero h0
    subst this
    exact ⟨none, 0, rfl, ⟨by simp, fun i hi => absurd hi (by simp)⟩⟩
  · refine ⟨some ⟨g, 0, none⟩, cap, by rw [hlm], ⟨by rw [hlm]; unfold maxLen at h4; omega, fun i hi => ⟨g, 0, rfl, (Array.getElem?_eq_some_iff.1 h2).1, ?_⟩⟩⟩
    rw [hlm] at hi
    have hc : ∀ j, j < 6 → w.cell? ⟨g, 0 + i * 6 + j, none⟩ = (.int .i64 (L[i]'hi).1 :: (L[i]'hi).2.1)[j]? := by
      intro j hj
      rw [← bindRow_at L hL i hi j hj, ← h6, List.getElem?_take, if_pos (by omega), Nat.zero_add]
      simp [World.cell?, h2]
    have hT := hL (L[i]'hi).2 (List.mem_map.2 ⟨_, List.getElem_mem hi, rfl⟩)
    rw [List.getElem_map]
    generalize L[i]'hi = x at *
    obtain ⟨a, cs, T⟩ := x
    obtain ⟨k, n, s, e, l, p, cp, rfl, rfl⟩ := hT.shape
    have c0 := hc 0 (by omega)
    have c1 := hc 1 (by omega)
    have c2 := hc 2 (by omega)
    have c3 := hc 3 (by omega)
    have c4 := hc 4 (by omega)
    have c5 := hc 5 (by omega)
    exact BindCells.mk a k n s e l p cp c0 c1 c2 c3 c4 c5 hT.tyIn
/-- Solve's answer, as the law meets it. -/
inductive SolveOut (w : World) (ps : List (Ty × Ty)) (e' : Ending) (w' : World) : Prop
  | mk (p : Option Addr) (cap : Nat) (Bs : List (Int × Ty)) (kind «at» : Int) (he : e' = .returned (.tuple #[.slice p Bs.length cap, .agg #[.int .i64 kind, .int .i64 «at»]])) (hb : Below w.heap.size w w') (hB : BindsRow w' p Bs) (ha : Answer ps kind Bs)
      (hc : ∀ b ∈ Bs, b.2.count ≤ 400) (hw : ∀ b ∈ Bs, (Lit.int .i64 b.1).wf = true) : SolveOut w ps e' w'
theorem none_row (w : World) : BindsRow w none [] := ⟨by simp, fun i hi => absurd hi (Nat.not_lt_zero _)⟩
theorem solve_out (w : World) (p : Option Addr) (cap : Nat) (ps : List (Ty × Ty)) (hP : PairsIn w p ps) (hcnt : allCount ps ≤ 1048576) :
    Calls Try.prog 7 #[.slice p ps.length cap] w fun e' w' => SolveOut w ps e' w' := by
  refine (solve_any w p cap ps hP hcnt).mono ?_
  intro e' w' h
  cases h with
  | arg h =>
    cases h with
    | bad i hi h1 h2 he hb => exact SolveOut.mk none 0 [] 21 i he hb (none_row _) (Answer.of_arg hi h2) (by simp) (by simp)
  | fail i hi s1 s2 e hp h1 h2 h0 he hb => exact SolveOut.mk none 0 [] e i he hb (none_row _) (Answer.of_fail hi hp h1 h2 h0) (by simp) (by simp)
  | big s1 x hp h1 hx h2 he hb => exact SolveOut.mk none 0 [] 12 ps.length he hb (none_row _) (Answer.of_big hp) (by simp) (by simp)
  | ok s1 v L hp h1 hc hL he ho hT hb =>
    obtain ⟨pv, cv, rfl, hrow⟩ := binds_row ho hT
    rw [hL] at he hrow
    have hg := (h1.good (good_start ps)).1
    refine SolveOut.mk pv cv _ 0 0 he hb hrow (Answer.of_ok hp h1 (fun x => List.mem_mergeSort)) ?_ ?_
    · intro b hb
      obtain ⟨x, hx, rfl⟩ := List.mem_map.1 hb
      show ((s1.sub x).app (mkv s1.eq)).count ≤ 400
      rw [count_mkv, hg.plain]
      exact hc x (List.mem_mergeSort.1 hx)
    · intro b hb
      obtain ⟨x, hx, rfl⟩ := List.mem_map.1 hb
      have hx := List.mem_mergeSort.1 hx
      obtain ⟨pr, hpr, hh⟩ := (mem_allVars x ps).1 hx
      obtain ⟨j, hj, rfl⟩ := List.mem_iff_getElem.1 hpr
      obtain ⟨b, o, _, _, hpc⟩ := hP.get j hj
      show (Lit.int .i64 x).wf = true
      generalize ps[j]'hj = pr at *
      cases hpc with
      | mk k n s e l q cap1 k' n' s' e' l' q' cap' c0 c1 c2 c3 c4 c5 c6 c7 c8 c9 hA hB =>
      rcases hh with hh | hh
      · exact hA.var_wf x hh
      · exact hB.var_wf x hh
end Go.Proofs.Ytbgpjaniohpfaaa
