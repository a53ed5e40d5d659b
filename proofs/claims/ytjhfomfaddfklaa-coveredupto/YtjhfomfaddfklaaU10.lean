/-
  The document's layer matches in plain words: is a row useful (useful)? What is counted down on the way.
-/
import Derived.Test.YtjhfomfaddfklaaU9
namespace Go.Proofs.Ytjhfomfaddfklaa
open Go.RowKit Go.Deep
/-- The rests of the rows that begin with what everything matches. -/
def defaultP : List (List Pt) → List (List Pt)
  | [] => []
  | [] :: m => defaultP m
  | (x :: r) :: m => if (bareP x).k = 0 then r :: defaultP m else defaultP m
theorem defaultP_snoc (m : List (List Pt)) (x : Pt) (r : List Pt) : defaultP (m ++ [x :: r]) = defaultP m ++ (if (bareP x).k = 0 then [r] else []) := by
  induction m with
  | nil =>
    rw [List.nil_append, defaultP]
    split <;> simp_all [defaultP]
  | cons y m ih =>
    rw [List.cons_append]
    cases y with
    | nil => rw [defaultP, defaultP, ih]
    | cons z s =>
      rw [defaultP, defaultP, ih]
      split <;> simp
def usefulQ (f : List (List Pt) → List Pt → Bool) : List Pt → List (List Pt) → Bool
  | [], m => decide (m.length = 0)
  | x :: q, m => if (bareP x).k = 0 then (if wholeP (firstsFrom [] m) = true then (firstsFrom [] m).any (fun h => f (restsP h m) (List.replicate h.kids.length Pt.any ++ q)) else usefulQ f q (defaultP m)) else f (restsP (bareP x) m) ((bareP x).kids ++ q)
/-- Is a row useful? The number bounds how often a first pattern is taken away. -/
def usefulF : Nat → List (List Pt) → List Pt → Bool
  | 0 => fun _ _ => false
  | n + 1 => fun m q => usefulQ (usefulF n) q m
theorem okP_var {k n o : Int} {m : Nat} (h : okP k n o m = true) (hk : k = 0 ∨ k = 1) : m = 0 := by
  unfold okP at h
  rw [if_pos (by omega)] at h
  simpa using h
theorem bare_kind : ∀ (x : Pt), x.good = true → (bareP x).k ≠ 1 ∧ (bareP x).k ≠ 2
  | .mk k n o a s [], h => by
    by_cases h1 : k = 1
    · rw [bareP_var h1]
      simp [Pt.any, Pt.k]
    · rw [bareP, if_neg h1]
      refine ⟨h1, fun h2 => ?_⟩
      have := (good_parts h).1
      simp only [Pt.k] at h2
      unfold okP at this
      simp [h2] at this
  | .mk k n o a s (x :: r), h => by
    by_cases h2 : k = 2
    · rw [bareP_as h2]
      exact bare_kind x ((good_parts h).2.2 x (by simp))
    · by_cases h1 : k = 1
      · rw [bareP_var h1]
        simp [Pt.any, Pt.k]
      · rw [bareP_else h1 h2]
        exact ⟨h1, h2⟩
theorem cons_bare : ∀ (x : Pt), x.good = true → (bareP x).cons = x.cons
  | .mk k n o a s [], h => by
    by_cases h1 : k = 1
    · rw [bareP_var h1]
      simp [Pt.any, Pt.cons, Pt.consL, h1]
    · rw [bareP, if_neg h1]
  | .mk k n o a s (x :: r), h => by
    by_cases h2 : k = 2
    · rw [bareP_as h2, cons_bare x ((good_parts h).2.2 x (by simp))]
      have hr : (x :: r).length = 1 := by
        have := (good_parts h).1
        unfold okP at this
        rw [if_neg (by omega), if_pos h2] at this
        simpa using this
      have : r = [] := List.eq_nil_of_length_eq_zero (by simpa using hr)
      subst this
      simp [Pt.cons, Pt.consL, h2]
    · by_cases h1 : k = 1
      · have := okP_var (good_parts h).1 (Or.inr h1)
        simp at this
      · rw [bareP_else h1 h2]
theorem cons_zero {x : Pt} (hg : x.good = true) (h : (bareP x).k = 0) : x.cons = 0 := by
  rw [← cons_bare x hg]
  have hb := good_bare x hg
  generalize bareP x = y at *
  cases y with
  | mk k n o a s l =>
    simp only [Pt.k] at h
    have := okP_var (good_parts hb).1 (Or.inl h)
    have hl : l = [] := List.eq_nil_of_length_eq_zero this
    subst hl
    simp [Pt.cons, Pt.consL, h]
theorem cons_head {x : Pt} (hg : x.good = true) (h : (bareP x).k ≠ 0) : Pt.consL (bareP x).kids + 1 = x.cons := by
  rw [← cons_bare x hg]
  have hk := bare_kind x hg
  generalize bareP x = y at *
  cases y with
  | mk k n o a s l =>
    simp only [Pt.k, Pt.kids] at *
    rw [Pt.cons, if_neg (by omega)]
    omega
theorem consL_any (n : Nat) : Pt.consL (List.replicate n Pt.any) = 0 := by
  induction n with
  | zero => rfl
  | succ n ih => rw [List.replicate_succ, Pt.consL, ih]; rfl
/-- How many parts of rows ask for something. -/
def consM : List (List Pt) → Nat
  | [] => 0
  | r :: m => Pt.consL r + consM m
theorem consM_app (a b : List (List Pt)) : consM (a ++ b) = consM a + consM b := by
  induction a with
  | nil => simp [consM]
  | cons x a ih => simp [consM, ih]; omega
theorem rest_cons {x h : Pt} {r : List Pt} (hg : x.good = true) : Pt.consL (restP x r h).1 ≤ Pt.consL (x :: r) := by
  unfold restP
  split
  · rw [Pt.consL_app, consL_any, Pt.consL]; omega
  · rename_i hk
    rw [Pt.consL_app, Pt.consL]
    have := cons_head hg hk
    omega
/-- Rows that are as they have to be, all as long as a row. -/
structure Rect (m : List (List Pt)) (n : Nat) : Prop where
  cnt : m.length ≤ 1000
  row : ∀ r ∈ m, r.length = n ∧ ∀ x ∈ r, x.good = true
theorem Rect.fine {m : List (List Pt)} {n : Nat} (h : Rect m n) (h0 : 0 < n) (hn : n ≤ 300000) : Fine m :=
  ⟨h.cnt, fun r hr => ⟨fun e => by have := (h.row r hr).1; rw [e] at this; simp at this; omega, by rw [(h.row r hr).1]; exact hn, (h.row r hr).2⟩⟩
theorem rests_sub {h : Pt} {m : List (List Pt)} {n : Nat} (hR : Rect m (n + 1)) (_ : h.good = true) : Rect (restsP h m) (h.kids.length + n) ∧ consM (restsP h m) ≤ consM m := by
  obtain ⟨hc, hr⟩ := hR
  have key : (restsP h m).length ≤ m.length ∧ (∀ r ∈ restsP h m, r.length = h.kids.length + n ∧ ∀ x ∈ r, x.good = true) ∧ consM (restsP h m) ≤ consM m := by
    induction m with
    | nil => exact ⟨Nat.le_refl _, fun r hr => by simp [restsP] at hr, Nat.le_refl _⟩
    | cons y m ih =>
      obtain ⟨i1, i2, i3⟩ := ih (by simp at hc; omega) (fun r h => hr r (by simp [h]))
      obtain ⟨y1, y2⟩ := hr y (by simp)
      cases y with
      | nil => simp at y1
      | cons x r =>
        have hxg := y2 x (by simp)
        have hrc := rest_cons (h := h) (r := r) hxg
        rw [restsP]
        split
        · rename_i ht
          refine ⟨by simp; omega, fun s hs => ?_, by simp only [consM]; omega⟩
          rcases List.mem_cons.1 hs with rfl | hs
          · unfold restP at ht ⊢
            simp only [List.length_cons] at y1
            by_cases hk : (bareP x).k = 0
            · rw [if_pos hk]
              refine ⟨by simp; omega, fun z hz => ?_⟩
              rcases List.mem_append.1 hz with hz | hz
              · rw [List.eq_of_mem_replicate hz]
                exact good_any
              · exact y2 z (by simp [hz])
            · rw [if_neg hk] at ht ⊢
              have hlen : (bareP x).kids.length = h.kids.length := by
                unfold alikeP at ht
                simp only [Bool.and_eq_true, decide_eq_true_eq] at ht
                exact ht.2.1
              refine ⟨by simp; omega, fun z hz => ?_⟩
              rcases List.mem_append.1 hz with hz | hz
              · exact (good_kids (good_bare x hxg)).2 z hz
              · exact y2 z (by simp [hz])
          · exact i2 s hs
        · exact ⟨by simp; omega, i2, by simp only [consM]; omega⟩
  exact ⟨⟨by omega, key.2.1⟩, key.2.2⟩
theorem default_sub {m : List (List Pt)} {n : Nat} (hR : Rect m (n + 1)) : Rect (defaultP m) n ∧ consM (defaultP m) ≤ consM m := by
  obtain ⟨hc, hr⟩ := hR
  have key : (defaultP m).length ≤ m.length ∧ (∀ r ∈ defaultP m, r.length = n ∧ ∀ x ∈ r, x.good = true) ∧ consM (defaultP m) ≤ consM m := by
    induction m with
    | nil => exact ⟨Nat.le_refl _, fun r hr => by simp [defaultP] at hr, Nat.le_refl _⟩
    | cons y m ih =>
      obtain ⟨i1, i2, i3⟩ := ih (by simp at hc; omega) (fun r h => hr r (by simp [h]))
      obtain ⟨y1, y2⟩ := hr y (by simp)
      cases y with
      | nil => simp at y1
      | cons x r =>
        rw [defaultP]
        split
        · refine ⟨by simp; omega, fun s hs => ?_, by simp only [consM, Pt.consL]; omega⟩
          rcases List.mem_cons.1 hs with rfl | hs
          · exact ⟨by simpa using y1, fun z hz => y2 z (by simp [hz])⟩
          · exact i2 s hs
        · exact ⟨by simp; omega, i2, by simp only [consM]; omega⟩
  exact ⟨⟨by omega, key.2.1⟩, key.2.2⟩
theorem alike_self (p : Pt) : alikeP p p = true := by
  unfold alikeP
  simp
/-- A first pattern comes from a row. -/
theorem firsts_mem {h : Pt} : ∀ (m : List (List Pt)) (l : List Pt), h ∈ firstsFrom l m → h ∈ l ∨ (h.k ≠ 0 ∧ ∃ x r, (x :: r) ∈ m ∧ bareP x = h)
  | [], l, hh => Or.inl hh
  | [] :: m, l, hh => by
    rw [firstsFrom] at hh
    rcases firsts_mem m l hh with h1 | ⟨h1, x, r, h2, h3⟩
    · exact Or.inl h1
    · exact Or.inr ⟨h1, x, r, by simp [h2], h3⟩
  | (x :: r) :: m, l, hh => by
    rw [firstsFrom] at hh
    rcases firsts_mem m _ hh with h1 | ⟨h1, y, s, h2, h3⟩
    · unfold addP at h1
      split at h1
      · rename_i hn
        rcases List.mem_append.1 h1 with h1 | h1
        · exact Or.inl h1
        · obtain rfl : h = bareP x := by simpa using h1
          refine Or.inr ⟨?_, x, r, by simp, rfl⟩
          unfold newP at hn
          simp only [Bool.and_eq_true, decide_eq_true_eq] at hn
          exact hn.1
      · exact Or.inl h1
    · exact Or.inr ⟨h1, y, s, by simp [h2], h3⟩
theorem rests_less {h : Pt} {m : List (List Pt)} {n : Nat} (hR : Rect m (n + 1)) (hm : h ∈ firstsFrom [] m) : h.good = true ∧ consM (restsP h m) < consM m := by
  rcases firsts_mem m [] hm with h1 | ⟨h1, x, r, h2, h3⟩
  · cases h1
  · have hxg := (hR.row _ h2).2 x (by simp)
    have hgh : h.good = true := by rw [← h3]; exact good_bare x hxg
    refine ⟨hgh, ?_⟩
    obtain ⟨a, b, rfl⟩ := List.append_of_mem h2
    have hRa : Rect a (n + 1) := ⟨by have := hR.cnt; simp at this; omega, fun r hr => hR.row r (by simp [hr])⟩
    have hRb : Rect b (n + 1) := ⟨by have := hR.cnt; simp at this; omega, fun r hr => hR.row r (by simp [hr])⟩
    have ka := (rests_sub hRa hgh).2
    have kb := (rests_sub hRb hgh).2
    have happ : ∀ (a b : List (List Pt)), restsP h (a ++ b) = restsP h a ++ restsP h b := by
      intro a b
      induction a with
      | nil => simp [restsP]
      | cons y a ih =>
        rw [List.cons_append]
        cases y with
        | nil => rw [restsP, restsP, ih]
        | cons z s =>
          rw [restsP, restsP, ih]
          split <;> simp
    rw [happ, consM_app, consM_app, restsP]
    have hk : (bareP x).k ≠ 0 := by rw [h3]; exact h1
    have hr : restP x r h = ((bareP x).kids ++ r, true) := by
      unfold restP
      rw [if_neg hk, h3, alike_self]
    rw [hr, if_pos rfl]
    simp only [consM, Pt.consL, Pt.consL_app]
    have := cons_head hxg hk
    omega
end Go.Proofs.Ytjhfomfaddfklaa
