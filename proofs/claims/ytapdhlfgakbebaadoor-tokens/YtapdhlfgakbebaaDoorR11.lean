import Derived.Test.YtapdhlfgakbebaaDoorR9
namespace Go.Proofs.YtapdhlfgakbebaaDoor
open Go.RowKit
theorem words_small : ∀ x ∈ Lx.words, x.head?.map Lx.isGreat = some false := by decide
theorem signs_other : ∀ x ∈ Lx.signs.take 28, x ≠ [] ∧ x.head? ≠ some 95 := by decide
def refKind (great : Bool) (d : List UInt8) : Nat := if d == [95] then 7 else if Lx.words.contains d then 6 else if great then 4 else 3
theorem name_spec (c : UInt8) (r : List UInt8) (hd : Lx.isDigit c = false) (h34 : c.toNat ≠ 34) (h39 : c.toNat ≠ 39) (hc : Lx.isSmall c = true ∨ Lx.isGreat c = true ∨ c.toNat = 95) :
    Lx.tok (c :: r) = if 20 < ((c :: r).takeWhile Lx.inName).length then none else some (⟨refKind (Lx.isGreat c) ((c :: r).takeWhile Lx.inName), (c :: r).takeWhile Lx.inName, 0⟩, ((c :: r).takeWhile Lx.inName).length) := by
  have hin : Lx.inName c = true := by
    rw [inName_iff]
    rcases hc with h | h | h
    · have := (isSmall_iff _).1 h; omega
    · have := (isGreat_iff _).1 h; omega
    · omega
  have htw : (c :: r).takeWhile Lx.inName = c :: r.takeWhile Lx.inName := by simp [hin]
  rw [tok_cons, if_neg (by rw [hd]; simp), if_neg (fun e => h34 (by rw [e]; rfl)), if_neg (fun e => h39 (by rw [e]; rfl))]
  rcases hc with h | h | h
  · rw [if_pos h]
    have hg : Lx.isGreat c = false := by rw [Bool.eq_false_iff]; intro q; have := (isGreat_iff _).1 q; have := (isSmall_iff _).1 h; omega
    unfold Lx.tokName
    have hne : ((c :: r).takeWhile Lx.inName == [95]) = false := by
      rw [beq_eq_false_iff_ne, htw]
      intro e
      have : c = 95 := by simpa using congrArg List.head? e
      rw [this] at h
      exact absurd h (by decide)
    unfold refKind Lx.nameKind
    rw [hne, hg]
    rfl
  · have hs : Lx.isSmall c = false := by rw [Bool.eq_false_iff]; intro q; have := (isSmall_iff _).1 q; have := (isGreat_iff _).1 h; omega
    rw [if_neg (by rw [hs]; simp), if_pos h]
    unfold Lx.tokName
    have hne : ((c :: r).takeWhile Lx.inName == [95]) = false := by
      rw [beq_eq_false_iff_ne, htw]
      intro e
      have : c = 95 := by simpa using congrArg List.head? e
      rw [this] at h
      exact absurd h (by decide)
    have hnw : Lx.words.contains ((c :: r).takeWhile Lx.inName) = false := by
      rw [Bool.eq_false_iff]
      intro e
      have hm := List.contains_iff_mem.1 e
      have := words_small _ hm
      rw [htw] at this
      simp [h] at this
    unfold refKind Lx.nameKind
    rw [hne, hnw, h]
    rfl
  · have hs : Lx.isSmall c = false := by rw [Bool.eq_false_iff]; intro q; have := (isSmall_iff _).1 q; omega
    have hg : Lx.isGreat c = false := by rw [Bool.eq_false_iff]; intro q; have := (isGreat_iff _).1 q; omega
    have hu : c = 95 := UInt8.toNat_inj.1 h
    rw [if_neg (by rw [hs]; simp), if_neg (by rw [hg]; simp)]
    by_cases hlong : 1 < ((c :: r).takeWhile Lx.inName).length
    · rw [if_pos ⟨hu, hlong⟩]
      unfold Lx.tokName
      have hne : ((c :: r).takeWhile Lx.inName == [95]) = false := by
        rw [beq_eq_false_iff_ne]
        intro e
        rw [e] at hlong
        exact absurd hlong (by decide)
      unfold refKind Lx.nameKind
      rw [hne, hg]
      rfl
    · rw [if_neg (fun q => hlong q.2)]
      have hr0 : r.takeWhile Lx.inName = [] := by
        rw [htw] at hlong
        simp only [List.length_cons] at hlong
        exact List.length_eq_zero_iff.1 (by omega)
      rw [htw, hr0, hu]
      have hh := sign_hit (95 :: r) 28 (by omega) (fun j hj => by
        have hm : Lx.signs.getD j [] ∈ Lx.signs.take 28 := by
          have hj2 : j < Lx.signs.length := by have : Lx.signs.length = 29 := rfl; omega
          have e : Lx.signs.getD j [] = (Lx.signs.take 28)[j]'(by rw [List.length_take]; omega) := by simp [List.getD, List.getElem?_eq_getElem hj2]
          rw [e]
          exact List.getElem_mem _
        obtain ⟨q1, q2⟩ := signs_other _ hm
        generalize Lx.signs.getD j [] = x at *
        cases x with
        | nil => exact absurd rfl q1
        | cons y z =>
          have : y ≠ 95 := fun e => q2 (by rw [e]; rfl)
          simp [List.isPrefixOf, this]) (by rfl)
      rw [hh]
      rfl
end Go.Proofs.YtapdhlfgakbebaaDoor
