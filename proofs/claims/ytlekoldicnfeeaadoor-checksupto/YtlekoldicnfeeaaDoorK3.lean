/-
  The program's Check in plain words: one instruction gone through, beside the document's.
-/
import Derived.Test.YtlekoldicnfeeaaDoorK2
namespace Go.Proofs.YtlekoldicnfeeaaDoor
def isAt (L : List Sn) (j : Nat) : Bool := ((L[j]?).getD default).is
theorem reach_told {L : List Sn} {k : Nat} {s : Sn} {i : Nat} (hs : s.vals ≤ 5000) (hk : isAt L k = false → i < k) : reachP L k s = toldP L k s i := by
  unfold reachP toldP
  rw [if_neg (by omega)]
  by_cases h : ((L[k]?).getD default).is = true
  · rw [if_pos h, if_pos h]
  · rw [if_neg h, if_neg h, decide_eq_true]
    have := hk (by unfold isAt; simpa using h)
    omega
theorem told_is {L : List Sn} {k : Nat} {s : Sn} {i : Int} (hs : s.is = true) {j : Nat} (h : isAt L j = true) : isAt (toldP L k s i).2 j = true := by
  unfold toldP
  split
  · exact h
  · unfold isAt at *
    by_cases hjk : k = j
    · subst hjk
      by_cases hl : k < L.length
      · simp [hl, hs]
      · rw [List.set_eq_of_length_le (by omega)]
        exact h
    · simp only [List.getElem?_set, if_neg hjk]
      exact h
theorem flowJ_is {fs : List Fn} {x : In} {i : Nat} {L : List Sn} {j : Nat} (h : isAt L j = true) : isAt (flowJ fs x i L).2 j = true := by
  unfold flowJ
  split
  · split
    · exact told_is rfl h
    · exact h
  · exact h
theorem flow_is {fs : List Fn} {x : In} {i : Nat} {L : List Sn} {j : Nat} (h : isAt L j = true) : isAt (flowP fs x i L).2 j = true := by
  unfold flowP
  split
  · split
    · exact flowJ_is h
    · exact told_is rfl (flowJ_is h)
  · exact flowJ_is h
theorem flow_here {fs : List Fn} {x : In} {i : Nat} {L : List Sn} (h : (flowP fs x i L).1 = true) : isAt L i = true := by
  unfold flowP at h
  split at h
  · rename_i h1
    unfold flowJ at h1
    split at h1
    · rename_i h2
      unfold mayP at h2
      simp only [Bool.and_eq_true] at h2
      exact h2.1
    · cases h1
  · cases h
theorem step_flow (fs : List Fn) (x : In) (i : Nat) (L : List Sn) (hL : LOk L i) (hi : i < L.length) (ht : 0 ≤ takesP fs x) (hinv : ∀ j, j < i → isAt L j = true) :
    (stepP fs x i L).1 = (flowP fs x i L).1 ∧ ((flowP fs x i L).1 = true → (stepP fs x i L).2 = (flowP fs x i L).2) := by
  have hg : (L[i]?).getD default = L[i]'hi := by simp [hi]
  obtain ⟨q1, q2, q3, q4⟩ := hL _ (List.getElem_mem hi)
  have hp := puts_range x
  by_cases his : isAt L i = true
  · have his2 : (L[i]'hi).is = true := by
      unfold isAt at his
      rw [hg] at his
      exact his
    have hall : ∀ j, isAt L j = false → i < j := fun j hj => by
      by_cases h1 : j < i
      · rw [hinv j h1] at hj; cases hj
      · by_cases h2 : j = i
        · subst h2; rw [his] at hj; cases hj
        · omega
    have hall2 : ∀ (y : Sn) (m : Int) (k : Nat), y.is = true → ∀ j, isAt (toldP L k y m).2 j = false → i < j := fun y m k hy j hj => by
      refine hall j ?_
      cases h : isAt L j
      · rfl
      · rw [told_is hy h] at hj; cases hj
    have hm : mayP fs x ((L[i]?).getD default) = (decide (takesP fs x ≤ (L[i]'hi).vals) && ((if x.op = 17 ∨ x.op = 16 then decide ((L[i]'hi).vals = takesP fs x) && decide ((L[i]'hi).tries = 0) else true) && (decide (0 ≤ (nextP fs x (L[i]'hi)).tries) && (decide ((nextP fs x (L[i]'hi)).vals ≤ 5000) && decide ((jumpP fs x (L[i]'hi)).vals ≤ 5000))))) := by
      unfold mayP
      rw [hg, his2]
      rfl
    have hst : stepP fs x i L = if takesP fs x ≤ (L[i]'hi).vals then stepJ x i L ⟨true, (L[i]'hi).vals + (putsP x - takesP fs x), (L[i]'hi).tries⟩ else (false, L) := by
      unfold stepP
      rw [hg, his2]
      simp
    unfold flowP flowJ
    rw [hm, hst, hg]
    clear hm hst
    generalize hs : (L[i]'hi) = s at *
    obtain ⟨si, sv, st⟩ := s
    simp only at his2 q1 q2 q3 q4
    subst his2
    by_cases htk : takesP fs x ≤ sv
    · rw [if_pos htk]
      have e1 : sv + (putsP x - takesP fs x) = sv - takesP fs x + putsP x := by omega
      simp only [decide_eq_true htk, Bool.true_and]
      rw [e1]
      obtain ⟨nv, hnv⟩ : ∃ nv, nv = sv - takesP fs x + putsP x := ⟨_, rfl⟩
      have hnx : (nextP fs x ⟨true, sv, st⟩).vals = nv := hnv.symm
      have hnx2 : nextP fs x ⟨true, sv, st⟩ = ⟨true, nv, (nextP fs x ⟨true, sv, st⟩).tries⟩ := by rw [← hnx]; rfl
      have hjx2 : jumpP fs x ⟨true, sv, st⟩ = ⟨true, nv + (if x.op = 20 then 1 else 0), st⟩ := by rw [hnv]; rfl
      have hnt : (nextP fs x ⟨true, sv, st⟩).tries = if x.op = 20 then st + 1 else if x.op = 21 then st - 1 else st := rfl
      rw [hnx, hnx2, hjx2, hnt, ← hnv]
      clear hnx hnx2 hjx2 hnt
      have hp0 : (x.op = 17 ∨ x.op = 16 ∨ x.op = 22 ∨ x.op = 18 ∨ x.op = 19 ∨ x.op = 20 ∨ x.op = 21) → nv ≤ 5000 := fun h => by
        have : putsP x = 0 := by unfold putsP; rw [if_pos (by omega)]
        omega
      have hv0 : (x.op = 17 ∨ x.op = 16) → (nv = 0 ↔ sv = takesP fs x) := fun h => by
        have : putsP x = 0 := by unfold putsP; rw [if_pos (by omega)]
        omega
      clear e1 hnv
      unfold stepJ
      generalize takesP fs x = tk at *
      generalize x.op = op at *
      generalize x.a.toNat = ja at *
      have hr1 : ∀ s : Sn, s.vals ≤ 5000 → reachP L ja s = toldP L ja s i := fun s hs => reach_told hs (hall ja)
      have hr2 : ∀ s : Sn, s.vals ≤ 5000 → reachP L (i + 1) s = toldP L (i + 1) s i := fun s hs => reach_told hs (hall (i + 1))
      have hr3 : ∀ (y s : Sn), y.is = true → s.vals ≤ 5000 → reachP (toldP L ja y i).2 (i + 1) s = toldP (toldP L ja y i).2 (i + 1) s i := fun y s hy hs => reach_told hs (hall2 y i ja hy (i + 1))
      have hbig : ∀ (M : List Sn) (k : Nat) (s : Sn), 5000 < s.vals → reachP M k s = (false, M) := fun M k s hs => by unfold reachP; rw [if_pos hs]
      clear hall hall2 hg hL hinv
      by_cases o17 : op = 17
      · subst o17
        have h5 := hp0 (by simp)
        have h6 := hv0 (by simp)
        simp [h5, q3]
        by_cases z1 : sv = tk <;> by_cases z2 : st = 0 <;> simp [z1, z2, h6]
      by_cases o16 : op = 16
      · subst o16
        have h5 := hp0 (by simp)
        have h6 := hv0 (by simp)
        simp [h5, q3]
        by_cases z1 : sv = tk <;> by_cases z2 : st = 0 <;> simp [z1, z2, h6]
      by_cases o22 : op = 22
      · subst o22
        have h5 := hp0 (by simp)
        simp [h5, q3]
      by_cases o18 : op = 18
      · subst o18
        have h5 := hp0 (by simp)
        simp [h5, q3, hr1]
        generalize toldP L ja ⟨true, nv, st⟩ i = r
        obtain ⟨c, M⟩ := r
        cases c <;> simp
      by_cases o19 : op = 19
      · subst o19
        have h5 := hp0 (by simp)
        simp [h5, q3, hr1, hr3]
      by_cases o20 : op = 20
      · subst o20
        have h5 := hp0 (by simp)
        by_cases h51 : nv + 1 ≤ 5000
        · have h7 : 0 ≤ st + 1 := by omega
          simp [h5, h7, h51, hr1, hr3]
        · have h52 : 5000 < nv + 1 := by omega
          simp [h51, hbig, h52]
      by_cases o21 : op = 21
      · subst o21
        have h5 := hp0 (by simp)
        by_cases h8 : 1 ≤ st
        · simp [h5, h8, hr2]
        · simp [h8]
      · by_cases h51 : nv ≤ 5000
        · simp [o17, o16, o22, o18, o19, o20, o21, h51, q3, hr2]
        · have h52 : 5000 < nv := by omega
          simp [o17, o16, o22, o18, o19, o20, o21, h51, hbig, h52]
    · rw [if_neg htk]
      simp [decide_eq_false htk]
  · have his2 : ¬ (L[i]'hi).is = true := by
      unfold isAt at his
      rw [hg] at his
      exact his
    unfold stepP flowP flowJ mayP
    rw [hg, if_neg (fun h => his2 h.1)]
    simp [his2]
end Go.Proofs.YtlekoldicnfeeaaDoor
