/-
  The program's layer matches in plain words: lines and rows.
-/
import Derived.Test.YtjhfomfaddfklaaU10
import Derived.Test.YtjhfomfaddfklaaPU
namespace Go.Proofs.Ytjhfomfaddfklaa
open Go.RowKit Go.Deep
theorem trim_app (a b : List Pt) : trimL (a ++ b) = if trimL a = [] then trimL b else trimL a ++ b := by
  induction a with
  | nil => simp [trimL]
  | cons x r ih =>
    rw [List.cons_append, trimL, trimL]
    split
    · exact ih
    · simp
theorem trim_trim (a b : List Pt) : trimL (trimL a ++ b) = trimL (a ++ b) := by
  induction a with
  | nil => rfl
  | cons x r ih =>
    rw [trimL]
    split
    · rename_i h
      rw [ih, List.cons_append, trimL, if_pos h]
    · rfl
/-- A row's line. -/
def lineP (r : List Pt) : List Pt := trimL r.reverse
theorem lineP_cons (y : Pt) (r : List Pt) : lineP (y :: r) = if lineP r = [] then (if (bareP y).k = 0 then [] else [y]) else lineP r ++ [y] := by
  unfold lineP
  rw [List.reverse_cons, trim_app]
  split
  · rw [trimL, trimL]
  · rfl
theorem lineP_nil_tail {y : Pt} {r : List Pt} (h : lineP (y :: r) = []) : (bareP y).k = 0 ∧ lineP r = [] := by
  rw [lineP_cons] at h
  split at h
  · rename_i hr
    split at h
    · rename_i hk
      exact ⟨hk, hr⟩
    · cases h
  · simp at h
theorem lineP_drop (y : Pt) (r : List Pt) : (lineP (y :: r)).dropLast = lineP r := by
  rw [lineP_cons]
  split
  · rename_i hr
    rw [hr]
    split <;> rfl
  · simp
theorem lineP_first (y : Pt) (r : List Pt) : firstL (lineP (y :: r)) = if (bareP y).k = 0 then none else some y := by
  rw [lineP_cons]
  by_cases hr : lineP r = []
  · rw [if_pos hr]
    by_cases hk : (bareP y).k = 0
    · rw [if_pos hk, if_pos hk]
      rfl
    · rw [if_neg hk, if_neg hk]
      unfold firstL
      simp [hk]
  · rw [if_neg hr]
    unfold firstL
    simp
theorem lineP_len (r : List Pt) : (lineP r).length ≤ r.length := by
  induction r with
  | nil => simp [lineP, trimL]
  | cons y r ih =>
    rw [lineP_cons]
    split
    · split <;> simp
    · simp
      exact ih
theorem trimL_mem {x : Pt} : ∀ {l : List Pt}, x ∈ trimL l → x ∈ l
  | [], h => h
  | y :: r, h => by
    rw [trimL] at h
    split at h
    · exact List.mem_cons_of_mem _ (trimL_mem h)
    · exact h
theorem lineP_mem {x : Pt} {r : List Pt} (h : x ∈ lineP r) : x ∈ r := by
  have := trimL_mem h
  simpa using this
/-- Two heads are alike. -/
theorem eqb_alike {a b : Pt} (ha : a.good = true) (_hb : b.good = true) (ka : (bareP a).k ≠ 0) (_kb : (bareP b).k ≠ 0) : Hd.eqb (hdOf a) (hdOf b) = alikeP (bareP a) (bareP b) := by
  have hga := good_bare a ha
  have hk1 := bare_kind a ha
  unfold Hd.eqb hdOf alikeP hnum htxt
  generalize bareP a = A at *
  generalize bareP b = B at *
  cases A with
  | mk k n o aa s l =>
    have hok := (good_parts hga).1
    simp only [Pt.k, Pt.n, Pt.s, Pt.kids] at *
    have hkk : k = 3 ∨ k = 4 ∨ k = 5 ∨ k = 6 ∨ k = 7 := by
      unfold okP at hok
      by_cases h3 : k = 3
      · omega
      · by_cases h4 : k = 4
        · omega
        · rw [if_neg (by omega), if_neg (by omega)] at hok
          by_cases h5 : k = 5
          · omega
          · rw [if_neg h5] at hok
            by_cases h6 : k = 6
            · omega
            · rw [if_neg h6] at hok
              by_cases h7 : k = 7
              · omega
              · rw [if_neg h7] at hok
                cases hok
    cases B with
    | mk kb nb ob ab sb lb =>
      by_cases hkB : k = kb
      · subst hkB
        rcases hkk with h | h | h | h | h <;> subst h <;> by_cases e1 : n = nb <;> by_cases e2 : s = sb <;> by_cases e3 : l.length = lb.length <;> simp [e1, e2, e3]
      · simp [hkB]
theorem eqb_self (h : Hd) : Hd.eqb h h = true := by
  unfold Hd.eqb
  simp
theorem alike_comm (a b : Pt) : alikeP a b = alikeP b a := by
  unfold alikeP
  by_cases h1 : a.k = b.k
  · by_cases h2 : a.kids.length = b.kids.length
    · by_cases h5 : b.k = 5
      · simp [h1, h2, h5]
      · by_cases h4 : b.k = 4
        · simp [h1, h2, h4, eq_comm]
        · simp [h1, h2, h5, h4, eq_comm]
    · have h2' : ¬ b.kids.length = a.kids.length := fun h => h2 h.symm
      simp [h2, h2']
  · have h1' : ¬ b.k = a.k := fun h => h1 h.symm
    simp [h1, h1']
/-- What a line asks for behind a head is what its row asks for. -/
theorem behind_line {y : Pt} {r : List Pt} {x : Pt} (hy : y.good = true) (hx : x.good = true) (hk : (bareP x).k ≠ 0) : behindL (lineP (y :: r)) (hdOf x) = if (restP y r (bareP x)).2 = true then some (lineP (restP y r (bareP x)).1) else none := by
  unfold behindL
  by_cases h0 : lineP (y :: r) = []
  · rw [if_pos h0]
    obtain ⟨h1, h2⟩ := lineP_nil_tail h0
    have hr : restP y r (bareP x) = (List.replicate (bareP x).kids.length Pt.any ++ r, true) := by unfold restP; rw [if_pos h1]
    rw [hr]
    simp only [if_true]
    congr 1
    unfold lineP at h2 ⊢
    rw [List.reverse_append, trim_app, if_pos h2, List.reverse_replicate]
    have : ∀ n, trimL (List.replicate n Pt.any) = [] := fun n => by
      induction n with
      | zero => rfl
      | succ n ih => rw [List.replicate_succ, trimL, if_pos (show (bareP Pt.any).k = 0 from rfl), ih]
    rw [this]
  · rw [if_neg h0, lineP_first, lineP_drop]
    by_cases h1 : (bareP y).k = 0
    · have hr : restP y r (bareP x) = (List.replicate (bareP x).kids.length Pt.any ++ r, true) := by unfold restP; rw [if_pos h1]
      rw [hr, if_pos h1]
      simp only [if_true]
      have hne : lineP r ≠ [] := fun h => h0 (by rw [lineP_cons, if_pos h, if_pos h1])
      congr 1
      unfold lineP at hne ⊢
      rw [List.reverse_append, trim_app, if_neg hne, List.reverse_replicate]
      rfl
    · have hr : restP y r (bareP x) = ((bareP y).kids ++ r, alikeP (bareP y) (bareP x)) := by unfold restP; rw [if_neg h1]
      rw [hr, if_neg h1]
      simp only
      rw [eqb_alike hy hx h1 hk]
      split
      · congr 1
        unfold lineP
        rw [List.reverse_append, trim_trim]
      · rfl
theorem behinds_lines {m : List (List Pt)} {n : Nat} {x : Pt} (hR : Rect m (n + 1)) (hx : x.good = true) (hk : (bareP x).k ≠ 0) : behindsL (hdOf x) (m.map lineP) = (restsP (bareP x) m).map lineP := by
  have hr := hR.row
  clear hR
  induction m with
  | nil => rfl
  | cons y m ih =>
    obtain ⟨y1, y2⟩ := hr y (by simp)
    cases y with
    | nil => simp at y1
    | cons z s =>
      have ih' := ih (fun r h => hr r (by simp [h]))
      unfold behindsL at ih' ⊢
      rw [List.map_cons, List.filterMap_cons, restsP, behind_line (y2 z (by simp)) hx hk]
      split
      · rename_i ht
        split at ht
        · cases ht
        · rename_i hn
          rw [if_neg hn]
          exact ih'
      · rename_i l' ht
        split at ht
        · rename_i hn
          rw [if_pos hn, List.map_cons, ih']
          cases ht
          rfl
        · cases ht
theorem rests_lines {m : List (List Pt)} {n : Nat} (hR : Rect m (n + 1)) : restsL (m.map lineP) = (defaultP m).map lineP := by
  have hr := hR.row
  clear hR
  induction m with
  | nil => rfl
  | cons y m ih =>
    obtain ⟨y1, y2⟩ := hr y (by simp)
    cases y with
    | nil => simp at y1
    | cons z s =>
      have ih' := ih (fun r h => hr r (by simp [h]))
      rw [List.map_cons, restsL, defaultP, lineP_first, lineP_drop, ih']
      by_cases h1 : (bareP z).k = 0
      · simp [h1]
      · simp [h1]
/-- The heads of lines are those of their rows. -/
theorem heads_lines {m : List (List Pt)} {n : Nat} (hR : Rect m (n + 1)) : (headsL (m.map lineP)).map bareP = firstsFrom [] m ∧ ∀ x ∈ headsL (m.map lineP), x.good = true ∧ (bareP x).k ≠ 0 := by
  have hr := hR.row
  clear hR
  have key : ∀ (m : List (List Pt)) (acc : List Pt), (∀ r ∈ m, r.length = n + 1 ∧ ∀ x ∈ r, x.good = true) → (∀ x ∈ acc, x.good = true ∧ (bareP x).k ≠ 0) → ((m.map lineP).foldl addH acc).map bareP = firstsFrom (acc.map bareP) m ∧ ∀ x ∈ (m.map lineP).foldl addH acc, x.good = true ∧ (bareP x).k ≠ 0 := by
    intro m
    induction m with
    | nil => exact fun acc _ ha => ⟨rfl, ha⟩
    | cons y m ih =>
      intro acc hr ha
      obtain ⟨y1, y2⟩ := hr y (by simp)
      cases y with
      | nil => simp at y1
      | cons z s =>
        have hz := y2 z (by simp)
        rw [List.map_cons, List.foldl_cons, firstsFrom]
        have hadd : (addH acc (lineP (z :: s))).map bareP = addP (acc.map bareP) (bareP z) ∧ ∀ x ∈ addH acc (lineP (z :: s)), x.good = true ∧ (bareP x).k ≠ 0 := by
          unfold addH addP newP
          rw [lineP_first]
          by_cases hk : (bareP z).k = 0
          · simp only [hk, if_true]
            exact ⟨by simp, ha⟩
          · simp only [hk, if_false]
            have hh : hasHd acc (hdOf z) = !(acc.map bareP).all fun y => !alikeP (bareP z) y := by
              unfold hasHd
              have : ∀ (l : List Pt), (∀ x ∈ l, x.good = true ∧ (bareP x).k ≠ 0) → (l.any fun y => Hd.eqb (hdOf y) (hdOf z)) = !(l.map bareP).all fun y => !alikeP (bareP z) y := by
                intro l
                induction l with
                | nil => simp
                | cons u l ihl =>
                  intro hl
                  rw [List.any_cons, List.map_cons, List.all_cons, ihl (fun x hx => hl x (by simp [hx])), eqb_alike (hl u (by simp)).1 hz (hl u (by simp)).2 hk, alike_comm]
                  simp
              exact this acc ha
            rw [hh]
            by_cases hal : ((acc.map bareP).all fun y => !alikeP (bareP z) y) = true
            · simp only [hal, Bool.not_true, Bool.false_eq_true, if_false, Bool.and_true, ne_eq]
              refine ⟨by simp [hk], fun x hx => ?_⟩
              rcases List.mem_append.1 hx with hx | hx
              · exact ha x hx
              · obtain rfl : x = z := by simpa using hx
                exact ⟨hz, hk⟩
            · simp only [Bool.not_eq_true] at hal
              simp only [hal, Bool.not_false, if_true, Bool.and_false, Bool.false_eq_true, if_false]
              exact ⟨trivial, ha⟩
        obtain ⟨h1, h2⟩ := hadd
        obtain ⟨k1, k2⟩ := ih (addH acc (lineP (z :: s))) (fun r h => hr r (by simp [h])) h2
        rw [h1] at k1
        exact ⟨k1, k2⟩
  exact key m [] hr (fun x hx => by cases hx)
end Go.Proofs.Ytjhfomfaddfklaa
