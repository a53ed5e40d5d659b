/-
  The program's layer matches in plain words: is a line useful?
-/
import Derived.Test.YtjhfomfaddfklaaV17
namespace Go.Proofs.Ytjhfomfaddfklaa
open Go.RowKit Go.Deep
def behindsL (h : Hd) (m : List (List Pt)) : List (List Pt) := m.filterMap fun l => behindL l h
def bOne : Option (List Pt) → List (List Pt)
  | some l => [l]
  | none => []
theorem behindsL_snoc (h : Hd) (m : List (List Pt)) (l : List Pt) : behindsL h (m ++ [l]) = behindsL h m ++ bOne (behindL l h) := by
  unfold behindsL
  rw [List.filterMap_append]
  congr 1
  cases hb : behindL l h <;> simp [hb, bOne]
/-- Lines that are not too many, nor too long, of patterns that may be. -/
structure Sm (m : List (List Pt)) (own : List Pt) : Prop where
  cnt : m.length ≤ 1000
  rows : ∀ l ∈ m, l.length ≤ 300000 ∧ ∀ x ∈ l, x.good = true
  own : own.length ≤ 300000 ∧ ∀ x ∈ own, x.good = true
def ownL (h : Hd) (own : List Pt) : List Pt := (behindL own h).getD []
/-- Is a line useful to lines? -/
inductive PU : List (List Pt) → List Pt → Bool → Prop
  | none (own : List Pt) : PU [] own true
  | all (m : List (List Pt)) (own : List Pt) (hn : hasNil m = true) : PU m own false
  | head (m : List (List Pt)) (own : List Pt) (x : Pt) (b : Bool) (hs : Sm m own) (h0 : m ≠ []) (hn : hasNil m = false) (hf : firstL own = some x) (h : PU (behindsL (hdOf x) m) (ownL (hdOf x) own) b) : PU m own b
  | rest (m : List (List Pt)) (own : List Pt) (b : Bool) (hs : Sm m own) (h0 : m ≠ []) (hn : hasNil m = false) (hf : firstL own = Option.none) (ha : areAllL (headsL m) = false) (h : PU (restsL m) own.dropLast b) : PU m own b
  | some (m : List (List Pt)) (own : List Pt) (pre : List Pt) (p : Pt) (post : List Pt) (hs : Sm m own) (h0 : m ≠ []) (hn : hasNil m = false) (hf : firstL own = Option.none) (ha : areAllL (headsL m) = true) (he : headsL m = pre ++ p :: post) (hpre : ∀ x ∈ pre, PU (behindsL (hdOf x) m) (ownL (hdOf x) own) false) (hp : PU (behindsL (hdOf p) m) (ownL (hdOf p) own) true) : PU m own true
  | no (m : List (List Pt)) (own : List Pt) (hs : Sm m own) (h0 : m ≠ []) (hn : hasNil m = false) (hf : firstL own = Option.none) (ha : areAllL (headsL m) = true) (h : ∀ x ∈ headsL m, PU (behindsL (hdOf x) m) (ownL (hdOf x) own) false) : PU m own false
theorem headsL_mem {x : Pt} {m : List (List Pt)} (h : x ∈ headsL m) : ∃ l ∈ m, x ∈ l ∧ (bareP x).k ≠ 0 := by
  have key : ∀ (m : List (List Pt)) (acc : List Pt), x ∈ m.foldl addH acc → x ∈ acc ∨ ∃ l ∈ m, x ∈ l ∧ (bareP x).k ≠ 0 := by
    intro m
    induction m with
    | nil => exact fun acc h => Or.inl h
    | cons l m ih =>
      intro acc h
      rw [List.foldl_cons] at h
      rcases ih _ h with h1 | ⟨l', h1, h2⟩
      · unfold addH at h1
        cases hf : firstL l with
        | none => rw [hf] at h1; exact Or.inl h1
        | some y =>
          rw [hf] at h1
          simp only at h1
          split at h1
          · exact Or.inl h1
          · rcases List.mem_append.1 h1 with h1 | h1
            · exact Or.inl h1
            · obtain rfl : x = y := by simpa using h1
              exact Or.inr ⟨l, by simp, firstL_some hf⟩
      · exact Or.inr ⟨l', by simp [h1], h2⟩
  rcases key m [] h with h | h
  · cases h
  · exact h
theorem headsL_len (m : List (List Pt)) : (headsL m).length ≤ m.length := by
  have key : ∀ (m : List (List Pt)) (acc : List Pt), (m.foldl addH acc).length ≤ acc.length + m.length := by
    intro m
    induction m with
    | nil => simp
    | cons l m ih =>
      intro acc
      rw [List.foldl_cons]
      have h1 := ih (addH acc l)
      have h2 : (addH acc l).length ≤ acc.length + 1 := by
        unfold addH
        cases firstL l with
        | none => simp
        | some y =>
          simp only
          split <;> simp
      simp
      omega
  have := key m []
  simpa [headsL] using this
end Go.Proofs.Ytjhfomfaddfklaa
