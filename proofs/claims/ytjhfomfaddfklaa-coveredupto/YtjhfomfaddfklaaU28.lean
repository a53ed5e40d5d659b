/-
  The law Covered in plain words: what its last tests ask.
-/
import Derived.Test.YtjhfomfaddfklaaU27
namespace Go.Proofs.Ytjhfomfaddfklaa
open Go.RowKit Go.Deep
def rows1 (l : List Pt) : List (List Pt) := l.map (fun x => [x])
/-- What fitted says of a pattern. -/
structure Fit (t : Sr) (P : Pt) : Prop where
  good : P.good = true
  nz : P.nz = true
  wt : WT t P
theorem not_useful_has {t : Sr} {l : List Pt} {q V : Pt} (hl : ∀ x ∈ l, Fit t x) (hq : WT t q) (hV : VT t V) (ha : argFrom 1 (rows1 l ++ [[q]]) 0 150 = none) (hu : usefulF 151 (rows1 l) [q] = false) (hm : matchP q V = true) : ∃ x ∈ l, hasP x V = true := by
  obtain ⟨hR, hg, hc, _⟩ := arg_rect (q := [q]) ha (by simp)
  obtain ⟨r, hr, hrm⟩ := covers 151 [q] (rows1 l) [t] [V] hu hc hR hg (AllT.cons hq AllT.nil) (fun r hr => by
    obtain ⟨x, hx, rfl⟩ := List.mem_map.1 hr
    exact AllT.cons (hl x hx).wt AllT.nil) (AllT.cons hV AllT.nil) (by simp [matchL, hm])
  obtain ⟨x, hx, rfl⟩ := List.mem_map.1 hr
  refine ⟨x, hx, ?_⟩
  rw [has_match x V (hl x hx).nz]
  simpa [matchL] using hrm
/-- No fault; and a pattern that the value matches, and none of the rows, is useful. -/
theorem covered_own {t : Sr} {l : List Pt} {q V : Pt} (hl : ∀ x ∈ l, Fit t x) (hq : Fit t q) (hV : VT t V) (hc : cntR l + cntP q ≤ 150) : (usefulAns (rows1 l) [q]).2.1 = 0 ∧ (hasP q V = true → (∀ x ∈ l, hasP x V = false) → (usefulAns (rows1 l) [q]).1 = true) := by
  have h := useful_few (fun x hx => (hl x hx).good) hq.good hc
  have ha := arg_few (l ++ [q]) 0 150 (fun x hx => by
    rcases List.mem_append.1 hx with hx | hx
    · exact (hl x hx).good
    · rw [List.mem_singleton.1 hx]; exact hq.good) (by rw [cntR_snoc]; omega)
  rw [List.map_append] at ha
  unfold rows1
  rw [h]
  refine ⟨rfl, fun hh hno => ?_⟩
  cases hu : usefulF 151 (l.map (fun x => [x])) [q] with
  | true => rfl
  | false =>
    obtain ⟨x, hx, hxx⟩ := not_useful_has hl hq.wt hV ha hu (by rw [← has_match q V hq.nz]; exact hh)
    rw [hno x hx] at hxx
    cases hxx
/-- Where nothing is left over each value is matched. -/
theorem covered_all {t : Sr} {l : List Pt} {V : Pt} (hl : ∀ x ∈ l, Fit t x) (hV : VT t V) (h0 : (usefulAns (rows1 l) [Pt.any]).2.1 = 0) (h1 : (usefulAns (rows1 l) [Pt.any]).1 = false) : ∃ x ∈ l, hasP x V = true := by
  unfold usefulAns at h0 h1
  rw [show [Pt.any].length = 1 from rfl] at h0 h1
  cases ha : argFrom 1 (rows1 l ++ [[Pt.any]]) 0 150 with
  | some i => rw [ha] at h0; simp at h0
  | none =>
    rw [ha] at h1
    exact not_useful_has hl (WT.any t 0 0 0 0 _ (Or.inl rfl)) hV ha h1 (by simp [matchP])
theorem covered_fault {t : Sr} {l : List Pt} (hl : ∀ x ∈ l, Fit t x) (hc : cntR l + 1 ≤ 150) : (usefulAns (rows1 l) [Pt.any]).2.1 = 0 := by
  have h := useful_few (q := Pt.any) (fun x hx => (hl x hx).good) good_any (by simpa [Pt.any, cntP, cntL] using hc)
  unfold rows1
  rw [h]
/-- Two constructors of two are all. -/
theorem both_all : usefulAns [[.mk 6 1 2 0 { data := #[] } []], [.mk 6 0 2 0 { data := #[] } []]] [Pt.any] = (false, 0, 0) := by kernel_rfl
end Go.Proofs.Ytjhfomfaddfklaa
