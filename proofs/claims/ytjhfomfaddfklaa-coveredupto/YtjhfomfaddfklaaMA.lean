/-
  The program's layer matches in plain words: is a line useful?
-/
import Derived.Test.YtjhfomfaddfklaaV17
import Derived.Test.YtjhfomfaddfklaaU10
namespace Go.Proofs.Ytjhfomfaddfklaa
open Go.RowKit Go.Deep
def behindsL (h : Hd) (m : List (List Pt)) : List (List Pt) := m.filterMap fun l => behindL l h
def bOne : Option (List Pt) → List (List Pt)
  | some l => [l]
  | none => []
theorem behindsL_snoc (h : Hd) (m : List (List Pt)) (l : List Pt) : behindsL h (m ++ [l]) = behindsL h m ++ bOne (behindL l h) := by
  unfold behindsL
  rw [List.filterMap_append]
  congr 1
  cases hb : behindL l h <;> simp [hb, bOne]
/-- Lines that are not too many, nor too long, of patterns that may be. -/
structure Sm (m : List (List Pt)) (own : List Pt) : Prop where
  cnt : m.length ≤ 1000
  rows : ∀ l ∈ m, l.length ≤ 300000 ∧ ∀ x ∈ l, x.good = true
  own : own.length ≤ 300000 ∧ ∀ x ∈ own, x.good = true
def ownL (h : Hd) (own : List Pt) : List Pt := (behindL own h).getD []
/-- Is a line useful to lines? -/
inductive PU : List (List Pt) → List Pt → Bool → Prop
  | none (own : List Pt) : PU [] own true
  | all (m : List (List Pt)) (own : List Pt) (hn : hasNil m = true) : PU m own false
  | head (m : List (List Pt)) (own : List Pt) (x : Pt) (b : Bool) (hs : Sm m own) (h0 : m ≠ []) (hn : hasNil m = false) (hf : firstL own = some x) (h : PU (behindsL (hdOf x) m) (ownL (hdOf x) own) b) : PU m own b
  | rest (m : List (List Pt)) (own : List Pt) (b : Bool) (hs : Sm m own) (h0 : m ≠ []) (hn : hasNil m = false) (hf : firstL own = Option.none) (ha : areAllL (headsL m) = false) (h : PU (restsL m) own.dropLast b) : PU m own b
  | some (m : List (List Pt)) (own : List Pt) (pre : List Pt) (p : Pt) (post : List Pt) (hs : Sm m own) (h0 : m ≠ []) (hn : hasNil m = false) (hf : firstL own = Option.none) (ha : areAllL (headsL m) = true) (he : headsL m = pre ++ p :: post) (hpre : ∀ x ∈ pre, PU (behindsL (hdOf x) m) (ownL (hdOf x) own) false) (hp : PU (behindsL (hdOf p) m) (ownL (hdOf p) own) true) : PU m own true
  | no (m : List (List Pt)) (own : List Pt) (hs : Sm m own) (h0 : m ≠ []) (hn : hasNil m = false) (hf : firstL own = Option.none) (ha : areAllL (headsL m) = true) (h : ∀ x ∈ headsL m, PU (behindsL (hdOf x) m) (ownL (hdOf x) own) false) : PU m own false
theorem headsL_mem {x : Pt} {m : List (List Pt)} (h : x ∈ headsL m) : ∃ l ∈ m, x ∈ l ∧ (bareP x).k ≠ 0 := by
  have key : ∀ (m : List (List Pt)) (acc : List Pt), x ∈ m.foldl addH acc → x ∈ acc ∨ ∃ l ∈ m, x ∈ l ∧ (bareP x).k ≠ 0 := by
    intro m
    induction m with
    | nil => exact fun acc h => Or.inl h
    | cons l m ih =>
      intro acc h
      rw [List.foldl_cons] at h
      rcases ih _ h with h1 | ⟨l', h1, h2⟩
      · unfold addH at h1
        cases hf : firstL l with
        | none => rw [hf] at h1; exact Or.inl h1
        | some y =>
          rw [hf] at h1
          simp only at h1
          split at h1
          · exact Or.inl h1
          · rcases List.mem_append.1 h1 with h1 | h1
            · exact Or.inl h1
            · obtain rfl : x = y := by simpa using h1
              exact Or.inr ⟨l, by simp, firstL_some hf⟩
      · exact Or.inr ⟨l', by simp [h1], h2⟩
  rcases key m [] h with h | h
  · cases h
  · exact h
theorem headsL_len (m : List (List Pt)) : (headsL m).length ≤ m.length := by
  have key : ∀ (m : List (List Pt)) (acc : List Pt), (m.foldl addH acc).length ≤ acc.length + m.length := by
    intro m
    induction m with
    | nil => simp
    | cons l m ih =>
      intro acc
      rw [List.foldl_cons]
      have h1 := ih (addH acc l)
      have h2 : (addH acc l).length ≤ acc.length + 1 := by
        unfold addH
        cases firstL l with
        | none => simp
        | some y =>
          simp only
          split <;> simp
      simp
      omega
  have := key m []
  simpa [headsL] using this
end Go.Proofs.Ytjhfomfaddfklaa
namespace Go.Proofs.Ytjhfomfaddfklaa
open Go.RowKit Go.Deep
theorem trim_app (a b : List Pt) : trimL (a ++ b) = if trimL a = [] then trimL b else trimL a ++ b := by
  induction a with
  | nil => simp [trimL]
  | cons x r ih =>
    rw [List.cons_append, trimL, trimL]
    split
    · exact ih
    · simp
theorem trim_trim (a b : List Pt) : trimL (trimL a ++ b) = trimL (a ++ b) := by
  induction a with
  | nil => rfl
  | cons x r ih =>
    rw [trimL]
    split
    · rename_i h
      rw [ih, List.cons_append, trimL, if_pos h]
    · rfl
/-- A row's line. -/
def lineP (r : List Pt) : List Pt := trimL r.reverse
theorem lineP_cons (y : Pt) (r : List Pt) : lineP (y :: r) = if lineP r = [] then (if (bareP y).k = 0 then [] else [y]) else lineP r ++ [y] := by
  unfold lineP
  rw [List.reverse_cons, trim_app]
  split
  · rw [trimL, trimL]
  · rfl
theorem lineP_nil_tail {y : Pt} {r : List Pt} (h : lineP (y :: r) = []) : (bareP y).k = 0 ∧ lineP r = [] := by
  rw [lineP_cons] at h
  split at h
  · rename_i hr
    split at h
    · rename_i hk
      exact ⟨hk, hr⟩
    · cases h
  · simp at h
theorem lineP_drop (y : Pt) (r : List Pt) : (lineP (y :: r)).dropLast = lineP r := by
  rw [lineP_cons]
  split
  · rename_i hr
    rw [hr]
    split <;> rfl
  · simp
theorem lineP_first (y : Pt) (r : List Pt) : firstL (lineP (y :: r)) = if (bareP y).k = 0 then none else some y := by
  rw [lineP_cons]
  by_cases hr : lineP r = []
  · rw [if_pos hr]
    by_cases hk : (bareP y).k = 0
    · rw [if_pos hk, if_pos hk]
      rfl
    · rw [if_neg hk, if_neg hk]
      unfold firstL
      simp [hk]
  · rw [if_neg hr]
    unfold firstL
    simp
theorem lineP_len (r : List Pt) : (lineP r).length ≤ r.length := by
  induction r with
  | nil => simp [lineP, trimL]
  | cons y r ih =>
    rw [lineP_cons]
    split
    · split <;> simp
    · simp
      exact ih
theorem trimL_mem {x : Pt} : ∀ {l : List Pt}, x ∈ trimL l → x ∈ l
  | [], h => h
  | y :: r, h => by
    rw [trimL] at h
    split at h
    · exact List.mem_cons_of_mem _ (trimL_mem h)
    · exact h
theorem lineP_mem {x : Pt} {r : List Pt} (h : x ∈ lineP r) : x ∈ r := by
  have := trimL_mem h
  simpa using this
/-- Two heads are alike. -/
theorem eqb_alike {a b : Pt} (ha : a.good = true) (_hb : b.good = true) (ka : (bareP a).k ≠ 0) (_kb : (bareP b).k ≠ 0) : Hd.eqb (hdOf a) (hdOf b) = alikeP (bareP a) (bareP b) := by
  have hga := good_bare a ha
  have hk1 := bare_kind a ha
  unfold Hd.eqb hdOf alikeP hnum htxt
  generalize bareP a = A at *
  generalize bareP b = B at *
  cases A with
  | mk k n o aa s l =>
    have hok := (good_parts hga).1
    simp only [Pt.k, Pt.n, Pt.s, Pt.kids] at *
    have hkk : k = 3 ∨ k = 4 ∨ k = 5 ∨ k = 6 ∨ k = 7 := by
      unfold okP at hok
      by_cases h3 : k = 3
      · omega
      · by_cases h4 : k = 4
        · omega
        · rw [if_neg (by omega), if_neg (by omega)] at hok
          by_cases h5 : k = 5
          · omega
          · rw [if_neg h5] at hok
            by_cases h6 : k = 6
            · omega
            · rw [if_neg h6] at hok
              by_cases h7 : k = 7
              · omega
              · rw [if_neg h7] at hok
                cases hok
    cases B with
    | mk kb nb ob ab sb lb =>
      by_cases hkB : k = kb
      · subst hkB
        rcases hkk with h | h | h | h | h <;> subst h <;> by_cases e1 : n = nb <;> by_cases e2 : s = sb <;> by_cases e3 : l.length = lb.length <;> simp [e1, e2, e3]
      · simp [hkB]
theorem eqb_self (h : Hd) : Hd.eqb h h = true := by
  unfold Hd.eqb
  simp
theorem alike_comm (a b : Pt) : alikeP a b = alikeP b a := by
  unfold alikeP
  by_cases h1 : a.k = b.k
  · by_cases h2 : a.kids.length = b.kids.length
    · by_cases h5 : b.k = 5
      · simp [h1, h2, h5]
      · by_cases h4 : b.k = 4
        · simp [h1, h2, h4, eq_comm]
        · simp [h1, h2, h5, h4, eq_comm]
    · have h2' : ¬ b.kids.length = a.kids.length := fun h => h2 h.symm
      simp [h2, h2']
  · have h1' : ¬ b.k = a.k := fun h => h1 h.symm
    simp [h1, h1']
/-- What a line asks for behind a head is what its row asks for. -/
theorem behind_line {y : Pt} {r : List Pt} {x : Pt} (hy : y.good = true) (hx : x.good = true) (hk : (bareP x).k ≠ 0) : behindL (lineP (y :: r)) (hdOf x) = if (restP y r (bareP x)).2 = true then some (lineP (restP y r (bareP x)).1) else none := by
  unfold behindL
  by_cases h0 : lineP (y :: r) = []
  · rw [if_pos h0]
    obtain ⟨h1, h2⟩ := lineP_nil_tail h0
    have hr : restP y r (bareP x) = (List.replicate (bareP x).kids.length Pt.any ++ r, true) := by unfold restP; rw [if_pos h1]
    rw [hr]
    simp only [if_true]
    congr 1
    unfold lineP at h2 ⊢
    rw [List.reverse_append, trim_app, if_pos h2, List.reverse_replicate]
    have : ∀ n, trimL (List.replicate n Pt.any) = [] := fun n => by
      induction n with
      | zero => rfl
      | succ n ih => rw [List.replicate_succ, trimL, if_pos (show (bareP Pt.any).k = 0 from rfl), ih]
    rw [this]
  · rw [if_neg h0, lineP_first, lineP_drop]
    by_cases h1 : (bareP y).k = 0
    · have hr : restP y r (bareP x) = (List.replicate (bareP x).kids.length Pt.any ++ r, true) := by unfold restP; rw [if_pos h1]
      rw [hr, if_pos h1]
      simp only [if_true]
      have hne : lineP r ≠ [] := fun h => h0 (by rw [lineP_cons, if_pos h, if_pos h1])
      congr 1
      unfold lineP at hne ⊢
      rw [List.reverse_append, trim_app, if_neg hne, List.reverse_replicate]
      rfl
    · have hr : restP y r (bareP x) = ((bareP y).kids ++ r, alikeP (bareP y) (bareP x)) := by unfold restP; rw [if_neg h1]
      rw [hr, if_neg h1]
      simp only
      rw [eqb_alike hy hx h1 hk]
      split
      · congr 1
        unfold lineP
        rw [List.reverse_append, trim_trim]
      · rfl
theorem behinds_lines {m : List (List Pt)} {n : Nat} {x : Pt} (hR : Rect m (n + 1)) (hx : x.good = true) (hk : (bareP x).k ≠ 0) : behindsL (hdOf x) (m.map lineP) = (restsP (bareP x) m).map lineP := by
  have hr := hR.row
  clear hR
  induction m with
  | nil => rfl
  | cons y m ih =>
    obtain ⟨y1, y2⟩ := hr y (by simp)
    cases y with
    | nil => simp at y1
    | cons z s =>
      have ih' := ih (fun r h => hr r (by simp [h]))
      unfold behindsL at ih' ⊢
      rw [List.map_cons, List.filterMap_cons, restsP, behind_line (y2 z (by simp)) hx hk]
      split
      · rename_i ht
        split at ht
        · cases ht
        · rename_i hn
          rw [if_neg hn]
          exact ih'
      · rename_i l' ht
        split at ht
        · rename_i hn
          rw [if_pos hn, List.map_cons, ih']
          cases ht
          rfl
        · cases ht
theorem rests_lines {m : List (List Pt)} {n : Nat} (hR : Rect m (n + 1)) : restsL (m.map lineP) = (defaultP m).map lineP := by
  have hr := hR.row
  clear hR
  induction m with
  | nil => rfl
  | cons y m ih =>
    obtain ⟨y1, y2⟩ := hr y (by simp)
    cases y with
    | nil => simp at y1
    | cons z s =>
      have ih' := ih (fun r h => hr r (by simp [h]))
      rw [List.map_cons, restsL, defaultP, lineP_first, lineP_drop, ih']
      by_cases h1 : (bareP z).k = 0
      · simp [h1]
      · simp [h1]
/-- The heads of lines are those of their rows. -/
theorem heads_lines {m : List (List Pt)} {n : Nat} (hR : Rect m (n + 1)) : (headsL (m.map lineP)).map bareP = firstsFrom [] m ∧ ∀ x ∈ headsL (m.map lineP), x.good = true ∧ (bareP x).k ≠ 0 := by
  have hr := hR.row
  clear hR
  have key : ∀ (m : List (List Pt)) (acc : List Pt), (∀ r ∈ m, r.length = n + 1 ∧ ∀ x ∈ r, x.good = true) → (∀ x ∈ acc, x.good = true ∧ (bareP x).k ≠ 0) → ((m.map lineP).foldl addH acc).map bareP = firstsFrom (acc.map bareP) m ∧ ∀ x ∈ (m.map lineP).foldl addH acc, x.good = true ∧ (bareP x).k ≠ 0 := by
    intro m
    induction m with
    | nil => exact fun acc _ ha => ⟨rfl, ha⟩
    | cons y m ih =>
      intro acc hr ha
      obtain ⟨y1, y2⟩ := hr y (by simp)
      cases y with
      | nil => simp at y1
      | cons z s =>
        have hz := y2 z (by simp)
        rw [List.map_cons, List.foldl_cons, firstsFrom]
        have hadd : (addH acc (lineP (z :: s))).map bareP = addP (acc.map bareP) (bareP z) ∧ ∀ x ∈ addH acc (lineP (z :: s)), x.good = true ∧ (bareP x).k ≠ 0 := by
          unfold addH addP newP
          rw [lineP_first]
          by_cases hk : (bareP z).k = 0
          · simp only [hk, if_true]
            exact ⟨by simp, ha⟩
          · simp only [hk, if_false]
            have hh : hasHd acc (hdOf z) = !(acc.map bareP).all fun y => !alikeP (bareP z) y := by
              unfold hasHd
              have : ∀ (l : List Pt), (∀ x ∈ l, x.good = true ∧ (bareP x).k ≠ 0) → (l.any fun y => Hd.eqb (hdOf y) (hdOf z)) = !(l.map bareP).all fun y => !alikeP (bareP z) y := by
                intro l
                induction l with
                | nil => simp
                | cons u l ihl =>
                  intro hl
                  rw [List.any_cons, List.map_cons, List.all_cons, ihl (fun x hx => hl x (by simp [hx])), eqb_alike (hl u (by simp)).1 hz (hl u (by simp)).2 hk, alike_comm]
                  simp
              exact this acc ha
            rw [hh]
            by_cases hal : ((acc.map bareP).all fun y => !alikeP (bareP z) y) = true
            · simp only [hal, Bool.not_true, Bool.false_eq_true, if_false, Bool.and_true, ne_eq]
              refine ⟨by simp [hk], fun x hx => ?_⟩
              rcases List.mem_append.1 hx with hx | hx
              · exact ha x hx
              · obtain rfl : x = z := by simpa using hx
                exact ⟨hz, hk⟩
            · simp only [Bool.not_eq_true] at hal
              simp only [hal, Bool.not_false, if_true, Bool.and_false, Bool.false_eq_true, if_false]
              exact ⟨trivial, ha⟩
        obtain ⟨h1, h2⟩ := hadd
        obtain ⟨k1, k2⟩ := ih (addH acc (lineP (z :: s))) (fun r h => hr r (by simp [h])) h2
        rw [h1] at k1
        exact ⟨k1, k2⟩
  exact key m [] hr (fun x hx => by cases hx)
end Go.Proofs.Ytjhfomfaddfklaa
namespace Go.Proofs.Ytjhfomfaddfklaa
open Go.RowKit Go.Deep
theorem sub_len : ∀ (a b : List Int), a.Nodup → (∀ x ∈ a, x ∈ b) → a.length ≤ b.length
  | [], b, _, _ => Nat.zero_le _
  | x :: a, b, hn, hs => by
    have hn' := List.nodup_cons.1 hn
    have hx := hs x (by simp)
    have := sub_len a (b.erase x) hn'.2 (fun y hy => (List.mem_erase_of_ne (fun (e : y = x) => hn'.1 (e ▸ hy))).2 (hs y (by simp [hy])))
    rw [List.length_erase_of_mem hx] at this
    have : 0 < b.length := List.length_pos_of_mem hx
    simp
    omega
/-- As many different numbers below a bound as there are: all. -/
theorem all_below {l : List Int} {n : Nat} (hn : l.Nodup) (hs : ∀ x ∈ l, 0 ≤ x ∧ x < n) : l.length = n ↔ ∀ k, k < n → (k : Int) ∈ l := by
  have hsub : ∀ x ∈ l, x ∈ (List.range n).map (fun k : Nat => (k : Int)) := fun x hx => by
    obtain ⟨h1, h2⟩ := hs x hx
    exact List.mem_map.2 ⟨x.toNat, by simp; omega, by omega⟩
  constructor
  · intro hl k hk
    apply Classical.byContradiction
    intro hne
    have := sub_len l (((List.range n).map (fun k : Nat => (k : Int))).erase k) hn (fun x hx => (List.mem_erase_of_ne (fun (e : x = (k : Int)) => hne (e ▸ hx))).2 (hsub x hx))
    rw [List.length_erase_of_mem (List.mem_map.2 ⟨k, by simpa using hk, rfl⟩)] at this
    simp at this
    omega
  · intro h
    have h1 := sub_len l _ hn hsub
    have hnd : ((List.range n).map (fun k : Nat => (k : Int))).Nodup := by
      rw [List.Nodup, List.pairwise_map]
      exact List.Pairwise.imp (fun h e => h (by omega)) (List.nodup_range (n := n))
    have h2 := sub_len ((List.range n).map (fun k : Nat => (k : Int))) l hnd (fun x hx => by
      obtain ⟨k, hk, rfl⟩ := List.mem_map.1 hx
      exact h k (by simpa using hk))
    simp at h1 h2
    omega
/-- A sorted row without repeats has each of its numbers once. -/
theorem compact_sorted {zs : List Int} (hs : zs.Pairwise (fun a b => a ≤ b)) : (Lib.compact zs).Nodup ∧ ∀ x, x ∈ Lib.compact zs ↔ x ∈ zs := by
  have key : ∀ n, n ≤ zs.length → (Lib.compactUpTo zs.toArray n).Pairwise (fun a b => a < b) ∧ ∀ x, x ∈ Lib.compactUpTo zs.toArray n ↔ x ∈ zs.take n := by
    intro n
    induction n with
    | zero => exact fun _ => ⟨List.Pairwise.nil, fun x => by simp [Lib.compactUpTo]⟩
    | succ n ih =>
      intro hn
      obtain ⟨i1, i2⟩ := ih (by omega)
      have hget : zs.toArray[n]! = zs[n]'(by omega) := by simp [show n < zs.length by omega]
      rw [Lib.compactUpTo_succ, List.take_succ_eq_append_getElem (by omega)]
      by_cases hk : Lib.keeps zs.toArray n = true
      · rw [if_pos hk, hget]
        constructor
        · rw [List.pairwise_append]
          refine ⟨i1, by simp, fun a ha b hb => ?_⟩
          obtain rfl : b = zs[n]'(by omega) := by simpa using hb
          have ha' := (i2 a).1 ha
          obtain ⟨k, hk1, hk2⟩ := List.getElem_of_mem ha'
          have hkn : k < n := by simp at hk1; omega
          have hka : a = zs[k]'(by omega) := by rw [← hk2]; simp
          have hle : zs[k]'(by omega) ≤ zs[n - 1]'(by omega) := by
            by_cases hkk : k = n - 1
            · subst hkk
              omega
            · exact List.pairwise_iff_getElem.1 hs k (n - 1) (by omega) (by omega) (by omega)
          have hle2 : zs[n - 1]'(by omega) ≤ zs[n]'(by omega) := List.pairwise_iff_getElem.1 hs (n - 1) n (by omega) (by omega) (by omega)
          have hne : zs[n]'(by omega) ≠ zs[n - 1]'(by omega) := by
            unfold Lib.keeps at hk
            simp only [decide_eq_true_eq] at hk
            rcases hk with hk | hk
            · omega
            · have h1 : zs.toArray[n - 1]! = zs[n - 1]'(by omega) := by simp [show n - 1 < zs.length by omega]
              rw [hget, h1] at hk
              exact hk
          omega
        · intro x
          rw [List.mem_append, List.mem_append, i2]
      · rw [if_neg hk, List.append_nil]
        refine ⟨i1, fun x => ?_⟩
        rw [List.mem_append, i2]
        refine ⟨Or.inl, fun h => ?_⟩
        rcases h with h | h
        · exact h
        · have hx : x = zs[n]'(by omega) := by simpa using h
          unfold Lib.keeps at hk
          simp only [decide_eq_true_eq] at hk
          have hn0 : n ≠ 0 := fun e => hk (Or.inl e)
          have h1 : zs.toArray[n - 1]! = zs[n - 1]'(by omega) := by simp [show n - 1 < zs.length by omega]
          have heq : zs[n]'(by omega) = zs[n - 1]'(by omega) := by
            apply Classical.byContradiction
            intro hne
            exact hk (Or.inr (by rw [hget, h1]; exact hne))
          rw [hx, heq]
          exact List.mem_take_iff_getElem.2 ⟨n - 1, by omega, rfl⟩
  obtain ⟨k1, k2⟩ := key zs.length (Nat.le_refl _)
  unfold Lib.compact
  refine ⟨List.Pairwise.imp (fun h => by omega) k1, fun x => ?_⟩
  rw [k2]
  simp
theorem whole_areAll {hs : List Pt} (hg : ∀ x ∈ hs, x.good = true ∧ (bareP x).k ≠ 0) : areAllL hs = wholeP (hs.map bareP) := by
  cases hs with
  | nil => rfl
  | cons x r =>
    rw [areAllL, List.map_cons, wholeP]
    by_cases h5 : (bareP x).k = 5
    · rw [if_pos h5, if_pos h5]
    · rw [if_neg h5, if_neg h5]
      by_cases h6 : (bareP x).k = 6
      · rw [if_pos h6, if_pos h6]
        have con_num : ∀ y ∈ x :: r, (bareP y).k = 6 → 0 ≤ (bareP y).n ∧ hnum (bareP y) = (bareP y).n ∧ (bareP y).n < (bareP y).o := fun y hy hk => by
          have hgb := good_bare y (hg y hy).1
          refine ⟨?_, by unfold hnum; rw [if_pos (by omega)], ?_⟩ <;>
          · generalize bareP y = B at *
            cases B with
            | mk k n o a s l =>
              have := (good_parts hgb).1
              simp only [Pt.k, Pt.n, Pt.o] at *
              subst hk
              unfold okP at this
              simp at this
              omega
        have ho : 0 < (bareP x).o := by
          have := con_num x (by simp) h6
          omega
        have hsorted : ((numsOf (bareP x).o (x :: r)).mergeSort leZ).Pairwise (fun a b => a ≤ b) := by
          have := List.pairwise_mergeSort (le := leZ) (fun a b c h1 h2 => by unfold leZ at *; simp at *; omega) (fun a b => by unfold leZ; simp; omega) (numsOf (bareP x).o (x :: r))
          exact List.Pairwise.imp (fun h => by unfold leZ at h; simpa using h) this
        obtain ⟨c1, c2⟩ := compact_sorted hsorted
        have hmem : ∀ z, z ∈ Lib.compact ((numsOf (bareP x).o (x :: r)).mergeSort leZ) ↔ ∃ y ∈ x :: r, (bareP y).k = 6 ∧ (bareP y).n = z ∧ z < (bareP x).o := fun z => by
          rw [c2, List.mem_mergeSort]
          unfold numsOf
          rw [List.mem_map]
          constructor
          · rintro ⟨y, hy, rfl⟩
            rw [List.mem_filter] at hy
            obtain ⟨hy1, hy2⟩ := hy
            unfold numIn at hy2
            simp only [Bool.and_eq_true, decide_eq_true_eq] at hy2
            have h3 := con_num y hy1 hy2.1
            exact ⟨y, hy1, hy2.1, h3.2.1.symm, hy2.2⟩
          · rintro ⟨y, hy1, hy2, rfl, hy3⟩
            have h3 := con_num y hy1 hy2
            refine ⟨y, List.mem_filter.2 ⟨hy1, ?_⟩, h3.2.1⟩
            unfold numIn
            simp only [Bool.and_eq_true, decide_eq_true_eq]
            exact ⟨hy2, by rw [h3.2.1]; exact hy3⟩
        have hb := all_below (l := Lib.compact ((numsOf (bareP x).o (x :: r)).mergeSort leZ)) (n := (bareP x).o.toNat) c1 (fun z hz => by
          obtain ⟨y, h1, h2, h3, h4⟩ := (hmem z).1 hz
          have := (con_num y h1 h2).1
          omega)
        have hiff : ((cntN (bareP x).o (x :: r) : Int) = (bareP x).o) ↔ ((List.range (bareP x).o.toNat).all (thereP (bareP x :: List.map bareP r)) = true) := by
          unfold cntN
          rw [List.all_eq_true]
          constructor
          · intro h k hk
            have hk' : k < (bareP x).o.toNat := by simpa using hk
            obtain ⟨y, h1, h2, h3, h4⟩ := (hmem k).1 (hb.1 (by omega) k hk')
            unfold thereP
            rw [List.any_eq_true]
            exact ⟨bareP y, by rw [← List.map_cons]; exact List.mem_map.2 ⟨y, h1, rfl⟩, by simp [h2, h3]⟩
          · intro h
            have : (Lib.compact ((numsOf (bareP x).o (x :: r)).mergeSort leZ)).length = (bareP x).o.toNat := hb.2 (fun k hk => by
              have := h k (by simpa using hk)
              unfold thereP at this
              rw [List.any_eq_true] at this
              obtain ⟨Y, hY, hY2⟩ := this
              rw [← List.map_cons] at hY
              obtain ⟨y, hy, rfl⟩ := List.mem_map.1 hY
              simp only [Bool.and_eq_true, decide_eq_true_eq] at hY2
              exact (hmem k).2 ⟨y, hy, hY2.1, hY2.2, by omega⟩)
            omega
        by_cases hc : (cntN (bareP x).o (x :: r) : Int) = (bareP x).o
        · rw [decide_eq_true hc, hiff.1 hc]
        · rw [decide_eq_false hc]
          cases hX : (List.range (bareP x).o.toNat).all (thereP (bareP x :: List.map bareP r)) with
          | true => exact absurd (hiff.2 hX) hc
          | false => rfl
      · rw [if_neg h6, if_neg h6]
/-- No rows: every row is useful. -/
theorem usefulF_none : ∀ (f : Nat) (q : List Pt), (∀ x ∈ q, x.good = true) → Pt.consL q < f → usefulF f [] q = true
  | 0, _, _, h => by omega
  | f + 1, q, hg, h => by
    show usefulQ (usefulF f) q [] = true
    induction q with
    | nil => rfl
    | cons x q ih =>
      rw [usefulQ]
      have hx := hg x (by simp)
      by_cases hk : (bareP x).k = 0
      · rw [if_pos hk]
        have hw : wholeP (firstsFrom [] []) = false := rfl
        rw [hw]
        simp only [Bool.false_eq_true, if_false]
        exact ih (fun y hy => hg y (by simp [hy])) (by rw [Pt.consL] at h; omega)
      · rw [if_neg hk]
        have h1 := cons_head hx hk
        rw [Pt.consL] at h
        refine usefulF_none f _ (fun y hy => ?_) (by rw [Pt.consL_app]; omega)
        rcases List.mem_append.1 hy with hy | hy
        · exact (good_kids (good_bare x hx)).2 y hy
        · exact hg y (by simp [hy])
/-- Does a row match everything? -/
def anyRow (r : List Pt) : Prop := ∀ x ∈ r, (bareP x).k = 0
theorem lineP_anyRow {r : List Pt} : lineP r = [] ↔ anyRow r := by
  induction r with
  | nil => exact ⟨(fun _ x hx => by cases hx), (fun _ => rfl)⟩
  | cons y r ih =>
    constructor
    · intro h
      obtain ⟨h1, h2⟩ := lineP_nil_tail h
      intro x hx
      rcases List.mem_cons.1 hx with rfl | hx
      · exact h1
      · exact ih.1 h2 x hx
    · intro h
      rw [lineP_cons, if_pos (ih.2 (fun x hx => h x (by simp [hx]))), if_pos (h y (by simp))]
theorem rests_anyRow {m : List (List Pt)} {y : Pt} {r : List Pt} (h : (y :: r) ∈ m) (hr : anyRow (y :: r)) (hd : Pt) : ∃ r' ∈ restsP hd m, anyRow r' := by
  induction m with
  | nil => cases h
  | cons z m ih =>
    rcases List.mem_cons.1 h with rfl | h
    · rw [restsP]
      have h1 : (bareP y).k = 0 := hr y (by simp)
      have hrest : restP y r hd = (List.replicate hd.kids.length Pt.any ++ r, true) := by unfold restP; rw [if_pos h1]
      rw [hrest]
      refine ⟨List.replicate hd.kids.length Pt.any ++ r, by simp, fun x hx => ?_⟩
      rcases List.mem_append.1 hx with hx | hx
      · rw [List.eq_of_mem_replicate hx]
        rfl
      · exact hr x (by simp [hx])
    · obtain ⟨r', h1, h2⟩ := ih h
      cases z with
      | nil => exact ⟨r', by rw [restsP]; exact h1, h2⟩
      | cons u s =>
        rw [restsP]
        split
        · exact ⟨r', by simp [h1], h2⟩
        · exact ⟨r', h1, h2⟩
theorem default_anyRow {m : List (List Pt)} {y : Pt} {r : List Pt} (h : (y :: r) ∈ m) (hr : anyRow (y :: r)) : ∃ r' ∈ defaultP m, anyRow r' := by
  induction m with
  | nil => cases h
  | cons z m ih =>
    rcases List.mem_cons.1 h with rfl | h
    · rw [defaultP, if_pos (hr y (by simp))]
      exact ⟨r, by simp, fun x hx => hr x (by simp [hx])⟩
    · obtain ⟨r', h1, h2⟩ := ih h
      cases z with
      | nil => exact ⟨r', by rw [defaultP]; exact h1, h2⟩
      | cons u s =>
        rw [defaultP]
        split
        · exact ⟨r', by simp [h1], h2⟩
        · exact ⟨r', h1, h2⟩
/-- Where a row matches everything, no row is useful. -/
theorem usefulF_all : ∀ (f : Nat) (m : List (List Pt)) (q : List Pt) (n : Nat), Rect m q.length → (∀ x ∈ q, x.good = true) → n = q.length → (∃ r ∈ m, anyRow r) → usefulF f m q = false
  | 0, _, _, _, _, _, _, _ => rfl
  | f + 1, m, q, n, hR, hg, hn, hr => by
    show usefulQ (usefulF f) q m = false
    induction q generalizing m n with
    | nil =>
      obtain ⟨r, h1, _⟩ := hr
      rw [usefulQ]
      have : 0 < m.length := List.length_pos_of_mem h1
      simp
      intro e
      rw [e] at h1
      cases h1
    | cons x q ih =>
      rw [usefulQ]
      have hx := hg x (by simp)
      have hq : ∀ y ∈ q, y.good = true := fun y hy => hg y (by simp [hy])
      simp only [List.length_cons] at hR
      obtain ⟨r, hr1, hr2⟩ := hr
      have hrl := (hR.row r hr1).1
      cases r with
      | nil => simp at hrl
      | cons y s =>
        by_cases hk : (bareP x).k = 0
        · rw [if_pos hk]
          split
          · rw [List.any_eq_false]
            intro h hh
            obtain ⟨hgh, _⟩ := rests_less hR hh
            have hR2 := (rests_sub hR hgh).1
            rw [usefulF_all f (restsP h m) (List.replicate h.kids.length Pt.any ++ q) _ (by simpa using hR2) (fun z hz => by
              rcases List.mem_append.1 hz with hz | hz
              · rw [List.eq_of_mem_replicate hz]; exact good_any
              · exact hq z hz) rfl (rests_anyRow hr1 hr2 h)]
            simp
          · exact ih (defaultP m) q.length (default_sub hR).1 hq rfl (default_anyRow hr1 hr2)
        · rw [if_neg hk]
          have hgb := good_bare x hx
          have hR2 := (rests_sub hR hgb).1
          exact usefulF_all f (restsP (bareP x) m) ((bareP x).kids ++ q) _ (by simpa using hR2) (fun z hz => by
              rcases List.mem_append.1 hz with hz | hz
              · exact (good_kids hgb).2 z hz
              · exact hq z hz) rfl (rests_anyRow hr1 hr2 _)
theorem first_true {α : Type} (F : α → Bool) : ∀ (l : List α), l.any F = true → ∃ pre p post, l = pre ++ p :: post ∧ (∀ x ∈ pre, F x = false) ∧ F p = true
  | [], h => by cases h
  | a :: l, h => by
    cases ha : F a with
    | true => exact ⟨[], a, l, rfl, (fun x hx => by cases hx), ha⟩
    | false =>
      rw [List.any_cons, ha, Bool.false_or] at h
      obtain ⟨pre, p, post, h1, h2, h3⟩ := first_true F l h
      refine ⟨a :: pre, p, post, by rw [h1]; rfl, fun x hx => ?_, h3⟩
      rcases List.mem_cons.1 hx with rfl | hx
      · exact ha
      · exact h2 x hx
theorem hasNil_row {m : List (List Pt)} : hasNil (m.map lineP) = true ↔ ∃ r ∈ m, anyRow r := by
  unfold hasNil
  rw [List.any_eq_true]
  constructor
  · rintro ⟨l, hl, h0⟩
    obtain ⟨r, hr, rfl⟩ := List.mem_map.1 hl
    exact ⟨r, hr, lineP_anyRow.1 (List.eq_nil_of_length_eq_zero (by simpa using h0))⟩
  · rintro ⟨r, hr, h⟩
    exact ⟨lineP r, List.mem_map.2 ⟨r, hr, rfl⟩, by rw [lineP_anyRow.2 h]; rfl⟩
set_option maxRecDepth 100000 in
/-- What the program answers of lines is what the document says of rows. -/
theorem pu_useful : ∀ (f : Nat) (m : List (List Pt)) (q : List Pt), Rect m q.length → (∀ x ∈ q, x.good = true) → consM m + Pt.consL q < f → q.length + 1000 * f ≤ 300000 → PU (m.map lineP) (lineP q) (usefulF f m q)
  | 0, _, _, _, _, h, _ => by omega
  | f + 1, m, q, hR, hg, hc, hl => by
    show PU (m.map lineP) (lineP q) (usefulQ (usefulF f) q m)
    induction q generalizing m with
    | nil =>
      rw [usefulQ]
      cases m with
      | nil => exact PU.none _
      | cons r m =>
        have hr : r = [] := List.eq_nil_of_length_eq_zero (hR.row r (by simp)).1
        have : decide ((r :: m).length = 0) = false := by simp
        rw [this]
        exact PU.all _ _ (hasNil_row.2 ⟨r, by simp, by rw [hr]; intro x hx; cases hx⟩)
    | cons x q ih =>
      have hx := hg x (by simp)
      have hq : ∀ y ∈ q, y.good = true := fun y hy => hg y (by simp [hy])
      by_cases hm : m = []
      · subst hm
        have h1 : usefulQ (usefulF f) (x :: q) [] = true := usefulF_none (f + 1) (x :: q) hg (by simp [consM] at hc; omega)
        rw [h1]
        exact PU.none _
      · by_cases hn : hasNil (m.map lineP) = true
        · have h1 : usefulQ (usefulF f) (x :: q) m = false := usefulF_all (f + 1) m (x :: q) _ hR hg rfl (hasNil_row.1 hn)
          rw [h1]
          exact PU.all _ _ hn
        · have hn' : hasNil (m.map lineP) = false := by simpa using hn
          have hm' : m.map lineP ≠ [] := by simpa using hm
          simp only [List.length_cons] at hR hl
          have hsm : Sm (m.map lineP) (lineP (x :: q)) := by
            refine ⟨by simpa using hR.cnt, fun l hlm => ?_, ?_, fun y hy => hg y (lineP_mem hy)⟩
            · obtain ⟨r, hr, rfl⟩ := List.mem_map.1 hlm
              have h1 := lineP_len r
              have h2 := hR.row r hr
              exact ⟨by omega, fun y hy => h2.2 y (lineP_mem hy)⟩
            · have := lineP_len (x :: q)
              simp at this
              omega
          rw [usefulQ]
          by_cases hk : (bareP x).k = 0
          · rw [if_pos hk]
            have hf : firstL (lineP (x :: q)) = none := by rw [lineP_first, if_pos hk]
            obtain ⟨hh1, hh2⟩ := heads_lines hR
            have hA : areAllL (headsL (m.map lineP)) = wholeP (firstsFrom [] m) := by rw [whole_areAll hh2, hh1]
            by_cases hw : wholeP (firstsFrom [] m) = true
            · rw [if_pos hw]
              have hall : ∀ y ∈ headsL (m.map lineP), PU (behindsL (hdOf y) (m.map lineP)) (ownL (hdOf y) (lineP (x :: q))) (usefulF f (restsP (bareP y) m) (List.replicate (bareP y).kids.length Pt.any ++ q)) := fun y hy => by
                obtain ⟨hy1, hy2⟩ := hh2 y hy
                have hym : bareP y ∈ firstsFrom [] m := by rw [← hh1]; exact List.mem_map.2 ⟨y, hy, rfl⟩
                obtain ⟨hgb, hless⟩ := rests_less hR hym
                have hR2 := (rests_sub hR hgb).1
                have hkl := (good_kids hgb).1
                have hown : ownL (hdOf y) (lineP (x :: q)) = lineP (List.replicate (bareP y).kids.length Pt.any ++ q) := by
                  unfold ownL
                  have hr : restP x q (bareP y) = (List.replicate (bareP y).kids.length Pt.any ++ q, true) := by unfold restP; rw [if_pos hk]
                  rw [behind_line hx hy1 hy2, hr]
                  rfl
                rw [behinds_lines hR hy1 hy2, hown]
                refine pu_useful f _ _ (by simpa using hR2) (fun z hz => ?_) ?_ ?_
                · rcases List.mem_append.1 hz with hz | hz
                  · rw [List.eq_of_mem_replicate hz]; exact good_any
                  · exact hq z hz
                · rw [Pt.consL_app, consL_any]
                  rw [Pt.consL] at hc
                  omega
                · simp
                  omega
              have hany : (firstsFrom [] m).any (fun h => usefulF f (restsP h m) (List.replicate h.kids.length Pt.any ++ q)) = (headsL (m.map lineP)).any (fun y => usefulF f (restsP (bareP y) m) (List.replicate (bareP y).kids.length Pt.any ++ q)) := by
                rw [← hh1, List.any_map]
                rfl
              rw [hany]
              cases hb : (headsL (m.map lineP)).any (fun y => usefulF f (restsP (bareP y) m) (List.replicate (bareP y).kids.length Pt.any ++ q)) with
              | true =>
                obtain ⟨pre, p, post, e1, e2, e3⟩ := first_true _ _ hb
                refine PU.some _ _ pre p post hsm hm' hn' hf (hA.trans hw) e1 (fun y hy => ?_) ?_
                · have := hall y (by rw [e1]; simp [hy])
                  rw [e2 y hy] at this
                  exact this
                · have := hall p (by rw [e1]; simp)
                  rw [e3] at this
                  exact this
              | false =>
                rw [List.any_eq_false] at hb
                refine PU.no _ _ hsm hm' hn' hf (hA.trans hw) (fun y hy => ?_)
                have h1 := hall y hy
                have h2 := hb y hy
                simp only [Bool.not_eq_true] at h2
                rw [h2] at h1
                exact h1
            · rw [if_neg hw]
              have hw' : wholeP (firstsFrom [] m) = false := by simpa using hw
              refine PU.rest _ _ _ hsm hm' hn' hf (hA.trans hw') ?_
              rw [rests_lines hR, lineP_drop]
              obtain ⟨d1, d2⟩ := default_sub hR
              have hl' : q.length + 1000 * (f + 1) ≤ 300000 := by omega
              have hc2 : consM (defaultP m) + Pt.consL q < f + 1 := by
                rw [Pt.consL] at hc
                omega
              exact ih (defaultP m) d1 hq hc2 hl'
          · rw [if_neg hk]
            have hf : firstL (lineP (x :: q)) = some x := by rw [lineP_first, if_neg hk]
            have hgb := good_bare x hx
            have hkl := (good_kids hgb).1
            obtain ⟨r1, r2⟩ := rests_sub hR hgb
            refine PU.head _ _ x _ hsm hm' hn' hf ?_
            have hown : ownL (hdOf x) (lineP (x :: q)) = lineP ((bareP x).kids ++ q) := by
              unfold ownL
              have hr : restP x q (bareP x) = ((bareP x).kids ++ q, true) := by unfold restP; rw [if_neg hk, alike_self]
              rw [behind_line hx hx hk, hr]
              rfl
            rw [behinds_lines hR hx hk, hown]
            have hch := cons_head hx hk
            refine pu_useful f _ _ (by simpa using r1) (fun z hz => ?_) ?_ ?_
            · rcases List.mem_append.1 hz with hz | hz
              · exact (good_kids hgb).2 z hz
              · exact hq z hz
            · rw [Pt.consL_app]
              rw [Pt.consL] at hc
              omega
            · simp
              omega
end Go.Proofs.Ytjhfomfaddfklaa
