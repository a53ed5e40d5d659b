/-
  The law Covered in plain words: has is matching; so few parts are no fault.
-/
import Derived.Test.YtjhfomfaddfklaaU26
namespace Go.Proofs.Ytjhfomfaddfklaa
open Go.RowKit Go.Deep
mutual
theorem has_match : ∀ (P V : Pt), P.nz = true → hasP P V = matchP P V
  | .mk k n o a s kids, V, h => by
    rw [Pt.nz] at h
    simp only [Bool.and_eq_true, decide_eq_true_eq] at h
    rw [hasP, matchP]
    by_cases h1 : k = 1
    · rw [if_pos h1, if_pos (Or.inr h1)]
    · rw [if_neg h1, if_neg (show ¬ (k = 0 ∨ k = 1) from fun h' => h'.elim h.1 h1)]
      by_cases h2 : k = 2
      · rw [if_pos h2, if_pos h2, hasA_match kids V h.2]
      · rw [if_neg h2, if_neg h2, hasL_match kids V.kids h.2]
        by_cases e1 : n = V.n
        · by_cases e2 : k = V.k
          · by_cases e3 : kids.length = V.kids.length
            · rw [if_neg (by omega)]
              simp [e1, e2, e3]
            · rw [if_pos (by omega)]
              simp [e3]
          · rw [if_pos (by omega)]
            simp [e2]
        · rw [if_pos (by omega)]
          simp [e1]
theorem hasA_match : ∀ (l : List Pt) (V : Pt), Pt.nzL l = true → hasA l V = matchA l V
  | [], _, _ => by rw [hasA, matchA]
  | x :: r, V, h => by
    rw [Pt.nzL, Bool.and_eq_true] at h
    rw [hasA, matchA, has_match x V h.1]
theorem hasL_match : ∀ (l vs : List Pt), Pt.nzL l = true → hasL l vs = matchL l vs
  | [], _, _ => by rw [hasL, matchL]
  | _ :: _, [], _ => by rw [hasL, matchL]
  | x :: r, v :: vs, h => by
    rw [Pt.nzL, Bool.and_eq_true] at h
    rw [hasL, matchL, has_match x v h.1, hasL_match r vs h.2]
end
mutual
theorem proper_cnt : ∀ (P : Pt) (left : Int), P.good = true → (cntP P : Int) ≤ left → properP P left = left - cntP P
  | .mk k n o a s kids, left, h, hl => by
    rw [Pt.good] at h
    simp only [Bool.and_eq_true, decide_eq_true_eq] at h
    rw [cntP] at hl ⊢
    rw [properP, if_pos h.1, properL_cnt kids (left - 1) h.2.2 (by omega)]
    omega
theorem properL_cnt : ∀ (l : List Pt) (left : Int), Pt.goodL l = true → (cntL l : Int) ≤ left → properL l left = left - cntL l
  | [], left, _, _ => by rw [properL, cntL]; omega
  | x :: r, left, h, hl => by
    rw [Pt.goodL, Bool.and_eq_true] at h
    rw [cntL] at hl ⊢
    rw [properL, if_pos (by omega), proper_cnt x left h.1 (by omega), properL_cnt r _ h.2 (by omega)]
    omega
end
/-- How many parts rows of one pattern have. -/
def cntR : List Pt → Nat
  | [] => 0
  | x :: r => cntP x + cntR r
theorem arg_few : ∀ (l : List Pt) (i : Nat) (left : Int), (∀ x ∈ l, x.good = true) → (cntR l : Int) ≤ left → argFrom 1 (l.map (fun x => [x])) i left = none
  | [], i, left, _, _ => by rw [List.map_nil, argFrom]
  | x :: r, i, left, h, hl => by
    rw [cntR] at hl
    have hx := proper_cnt x left (h x (by simp)) (by omega)
    have hr : rowLeft 1 [x] left = left - cntP x := by
      unfold rowLeft
      rw [if_pos (by simp), properL, if_pos (by omega), properL, hx]
    rw [List.map_cons, argFrom, hr, if_neg (by omega)]
    exact arg_few r (i + 1) _ (fun y hy => h y (by simp [hy])) (by omega)
theorem cntR_snoc (l : List Pt) (x : Pt) : cntR (l ++ [x]) = cntR l + cntP x := by
  induction l with
  | nil => simp [cntR]
  | cons y l ih => simp [cntR, ih]; omega
theorem useful_few {l : List Pt} {q : Pt} (hl : ∀ x ∈ l, x.good = true) (hq : q.good = true) (hc : cntR l + cntP q ≤ 150) : usefulAns (l.map (fun x => [x])) [q] = (usefulF 151 (l.map (fun x => [x])) [q], 0, 0) := by
  have h := arg_few (l ++ [q]) 0 150 (fun x hx => by
    rcases List.mem_append.1 hx with hx | hx
    · exact hl x hx
    · rw [List.mem_singleton.1 hx]; exact hq) (by rw [cntR_snoc]; omega)
  rw [List.map_append] at h
  unfold usefulAns
  rw [show [q].length = 1 from rfl]
  rw [show (l.map (fun x => [x])) ++ [[q]] = (l.map (fun x => [x])) ++ ([q].map (fun x => [x])) from rfl, h]
end Go.Proofs.Ytjhfomfaddfklaa
namespace Go.Proofs.Ytjhfomfaddfklaa
open Go.RowKit Go.Deep
def rows1 (l : List Pt) : List (List Pt) := l.map (fun x => [x])
/-- What fitted says of a pattern. -/
structure Fit (t : Sr) (P : Pt) : Prop where
  good : P.good = true
  nz : P.nz = true
  wt : WT t P
theorem not_useful_has {t : Sr} {l : List Pt} {q V : Pt} (hl : ∀ x ∈ l, Fit t x) (hq : WT t q) (hV : VT t V) (ha : argFrom 1 (rows1 l ++ [[q]]) 0 150 = none) (hu : usefulF 151 (rows1 l) [q] = false) (hm : matchP q V = true) : ∃ x ∈ l, hasP x V = true := by
  obtain ⟨hR, hg, hc, _⟩ := arg_rect (q := [q]) ha (by simp)
  obtain ⟨r, hr, hrm⟩ := covers 151 [q] (rows1 l) [t] [V] hu hc hR hg (AllT.cons hq AllT.nil) (fun r hr => by
    obtain ⟨x, hx, rfl⟩ := List.mem_map.1 hr
    exact AllT.cons (hl x hx).wt AllT.nil) (AllT.cons hV AllT.nil) (by simp [matchL, hm])
  obtain ⟨x, hx, rfl⟩ := List.mem_map.1 hr
  refine ⟨x, hx, ?_⟩
  rw [has_match x V (hl x hx).nz]
  simpa [matchL] using hrm
/-- No fault; and a pattern that the value matches, and none of the rows, is useful. -/
theorem covered_own {t : Sr} {l : List Pt} {q V : Pt} (hl : ∀ x ∈ l, Fit t x) (hq : Fit t q) (hV : VT t V) (hc : cntR l + cntP q ≤ 150) : (usefulAns (rows1 l) [q]).2.1 = 0 ∧ (hasP q V = true → (∀ x ∈ l, hasP x V = false) → (usefulAns (rows1 l) [q]).1 = true) := by
  have h := useful_few (fun x hx => (hl x hx).good) hq.good hc
  have ha := arg_few (l ++ [q]) 0 150 (fun x hx => by
    rcases List.mem_append.1 hx with hx | hx
    · exact (hl x hx).good
    · rw [List.mem_singleton.1 hx]; exact hq.good) (by rw [cntR_snoc]; omega)
  rw [List.map_append] at ha
  unfold rows1
  rw [h]
  refine ⟨rfl, fun hh hno => ?_⟩
  cases hu : usefulF 151 (l.map (fun x => [x])) [q] with
  | true => rfl
  | false =>
    obtain ⟨x, hx, hxx⟩ := not_useful_has hl hq.wt hV ha hu (by rw [← has_match q V hq.nz]; exact hh)
    rw [hno x hx] at hxx
    cases hxx
/-- Where nothing is left over each value is matched. -/
theorem covered_all {t : Sr} {l : List Pt} {V : Pt} (hl : ∀ x ∈ l, Fit t x) (hV : VT t V) (h0 : (usefulAns (rows1 l) [Pt.any]).2.1 = 0) (h1 : (usefulAns (rows1 l) [Pt.any]).1 = false) : ∃ x ∈ l, hasP x V = true := by
  unfold usefulAns at h0 h1
  rw [show [Pt.any].length = 1 from rfl] at h0 h1
  cases ha : argFrom 1 (rows1 l ++ [[Pt.any]]) 0 150 with
  | some i => rw [ha] at h0; simp at h0
  | none =>
    rw [ha] at h1
    exact not_useful_has hl (WT.any t 0 0 0 0 _ (Or.inl rfl)) hV ha h1 (by simp [matchP])
theorem covered_fault {t : Sr} {l : List Pt} (hl : ∀ x ∈ l, Fit t x) (hc : cntR l + 1 ≤ 150) : (usefulAns (rows1 l) [Pt.any]).2.1 = 0 := by
  have h := useful_few (q := Pt.any) (fun x hx => (hl x hx).good) good_any (by simpa [Pt.any, cntP, cntL] using hc)
  unfold rows1
  rw [h]
/-- Two constructors of two are all. -/
theorem both_all : usefulAns [[.mk 6 1 2 0 { data := #[] } []], [.mk 6 0 2 0 { data := #[] } []]] [Pt.any] = (false, 0, 0) := by kernel_rfl
end Go.Proofs.Ytjhfomfaddfklaa
