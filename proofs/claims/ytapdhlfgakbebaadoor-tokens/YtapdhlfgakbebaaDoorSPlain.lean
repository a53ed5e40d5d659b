/-
  The tokens of two texts side by side, a newline between, are those of both. Plain words alone.
-/
import Derived.Test.YtapdhlfgakbebaaDoorTokSt
namespace Go.Proofs.YtapdhlfgakbebaaDoor
open Go.RowKit
theorem front_sep {p : UInt8 → Bool} (hp : p 10 = false) (t : List UInt8) : ∀ x : List UInt8, (x ++ 10 :: t).takeWhile p = x.takeWhile p
  | [] => by simp [hp]
  | c :: r => by
    have ih := front_sep hp t r
    cases hc : p c
    · simp [hc]
    · simp [hc, ih]
theorem prefix_sep (t : List UInt8) : ∀ (s x : List UInt8), (10 : UInt8) ∉ s → s.isPrefixOf (x ++ 10 :: t) = s.isPrefixOf x
  | [], x, _ => by simp
  | a :: s, [], h => by
    have : a ≠ 10 := fun e => h (by rw [e]; exact List.mem_cons_self ..)
    simp [List.isPrefixOf, this]
  | a :: s, c :: x, h => by
    have ih := prefix_sep t s x (fun e => h (List.mem_cons_of_mem _ e))
    simp only [List.cons_append, List.isPrefixOf, ih]
theorem find_congr {α : Type} (p q : α → Bool) : ∀ (l : List α), (∀ x ∈ l, p x = q x) → l.find? p = l.find? q
  | [], _ => rfl
  | a :: l, h => by
    rw [List.find?_cons, List.find?_cons, h a (List.mem_cons_self ..), find_congr p q l (fun x hx => h x (List.mem_cons_of_mem _ hx))]
theorem signs_no_sep : ∀ x ∈ Lx.signs, (10 : UInt8) ∉ x := by decide
theorem tokSign_sep (x t : List UInt8) : Lx.tokSign (x ++ 10 :: t) = Lx.tokSign x := by
  unfold Lx.tokSign
  rw [find_congr (fun s => s.isPrefixOf (x ++ 10 :: t)) (fun s => s.isPrefixOf x) Lx.signs (fun s hs => prefix_sep t s x (signs_no_sep s hs))]
theorem tokNum_sep (x t : List UInt8) : Lx.tokNum (x ++ 10 :: t) = Lx.tokNum x := by
  unfold Lx.tokNum
  rw [front_sep (by decide)]
theorem tokName_sep (g : Bool) (x t : List UInt8) : Lx.tokName g (x ++ 10 :: t) = Lx.tokName g x := by
  unfold Lx.tokName
  rw [front_sep (by decide)]
theorem drop_sep (x t : List UInt8) (q : Nat) (h : q ≤ x.length) : (x ++ 10 :: t).drop q = x.drop q ++ 10 :: t := List.drop_append_of_le_length h
theorem tokVarAt_sep (q : Nat) (x t : List UInt8) (h : q ≤ x.length) : Lx.tokVarAt q (x ++ 10 :: t) = Lx.tokVarAt q x := by
  unfold Lx.tokVarAt
  rw [drop_sep x t q h, front_sep (by decide), front_sep (by decide)]
  have := front_le Lx.inVar (x.drop q)
  rw [List.length_drop] at this
  rw [List.take_append_of_le_length (by omega)]
theorem tokVar_sep (x t : List UInt8) (h : 1 ≤ x.length) : Lx.tokVar (x ++ 10 :: t) = Lx.tokVar x := by
  unfold Lx.tokVar
  rw [drop_sep x t 1 h, prefix_sep t [39] (x.drop 1) (by decide)]
  cases hp : [39].isPrefixOf (x.drop 1)
  · exact tokVarAt_sep 1 x t h
  · have hl := (List.isPrefixOf_iff_prefix.1 hp).length_le
    rw [List.length_drop] at hl
    simp at hl
    exact tokVarAt_sep 2 x t (by omega)
theorem esc_ext (l z : List UInt8) (b : UInt8) (j : Nat) (h : Lx.esc l = some (b, j)) : Lx.esc (l ++ z) = some (b, j) := by
  cases l with
  | nil => simp [Lx.esc] at h
  | cons c r =>
    unfold Lx.esc at h ⊢
    simp only [List.cons_append] at h ⊢
    split at h
    · rename_i hc; rw [if_pos hc]; exact h
    · rename_i h0
      rw [if_neg h0]
      split at h
      · rename_i hc; rw [if_pos hc]; exact h
      · rename_i h1
        rw [if_neg h1]
        split at h
        · rename_i hc; rw [if_pos hc]; exact h
        · rename_i h2
          rw [if_neg h2]
          split at h
          · rename_i hc; rw [if_pos hc]; exact h
          · rename_i h3
            rw [if_neg h3]
            match r with
            | [] => simp at h
            | [a] => simp at h
            | a :: b' :: r' => exact h
theorem strA_ext : ∀ (f f' : Nat) (acc : List UInt8) (k : Nat) (l z : List UInt8) (q : List UInt8 × Nat), f ≤ f' → Lx.strA f acc k l = some q → Lx.strA f' acc k (l ++ z) = some q
  | 0, f', acc, k, l, z, q, _, h => by simp [Lx.strA] at h
  | f + 1, f', acc, k, l, z, q, hf, h => by
    obtain ⟨g, rfl⟩ : ∃ g, f' = g + 1 := ⟨f' - 1, by omega⟩
    cases l with
    | nil => simp [Lx.strA] at h
    | cons c r =>
      have e : ∀ (n : Nat) (r : List UInt8), Lx.strA (n + 1) acc k (c :: r) = (if c < 32 then none
          else if c = 34 then (if acc.length ≤ 200 then some (acc, k + 1) else none)
          else if c = 92 then
            (match Lx.esc r with
            | none => none
            | some (b, j) => Lx.strA n (acc ++ [b]) (k + 1 + j) (r.drop j))
          else Lx.strA n (acc ++ [c]) (k + 1) r) := fun _ _ => rfl
      rw [List.cons_append, e]
      rw [e] at h
      split at h
      · simp at h
      · rename_i h32
        rw [if_neg h32]
        split at h
        · rename_i h34
          rw [if_pos h34]
          exact h
        · rename_i h34
          rw [if_neg h34]
          split at h
          · rename_i h92
            rw [if_pos h92]
            cases he : Lx.esc r with
            | none => rw [he] at h; simp at h
            | some p =>
              obtain ⟨b, j⟩ := p
              rw [he] at h
              rw [esc_ext r z b j he]
              have hl := esc_len _ _ _ he
              show Lx.strA g (acc ++ [b]) (k + 1 + j) ((r ++ z).drop j) = some q
              rw [List.drop_append_of_le_length hl.2]
              exact strA_ext f g _ _ _ _ _ (by omega) h
          · rename_i h92
            rw [if_neg h92]
            exact strA_ext f g _ _ _ _ _ (by omega) h
theorem tokStr_sep (x t : List UInt8) (r : Lx.Tok × Nat) (hx : 1 ≤ x.length) (h : Lx.tokStr x = some r) : Lx.tokStr (x ++ 10 :: t) = some r := by
  rw [tokStr_eq] at h ⊢
  cases hs : Lx.strA x.length [] 1 (x.drop 1) with
  | none => rw [hs] at h; simp [strTok] at h
  | some q =>
    rw [hs] at h
    rw [drop_sep x t 1 hx, strA_ext _ _ _ _ _ _ q (by simp) hs]
    exact h
theorem tok_sep (x t : List UInt8) (r : Lx.Tok × Nat) (h : Lx.tok x = some r) : Lx.tok (x ++ 10 :: t) = some r := by
  cases x with
  | nil => simp [Lx.tok] at h
  | cons c x =>
    have e : ∀ y : List UInt8, Lx.tok (c :: y) = (if Lx.isDigit c then Lx.tokNum (c :: y) else if c = 34 then Lx.tokStr (c :: y) else if c = 39 then Lx.tokVar (c :: y)
        else if Lx.isSmall c then Lx.tokName false (c :: y) else if Lx.isGreat c then Lx.tokName true (c :: y)
        else if c = 95 ∧ 1 < ((c :: y).takeWhile Lx.inName).length then Lx.tokName false (c :: y) else Lx.tokSign (c :: y)) := fun _ => rfl
    have hl : 1 ≤ (c :: x).length := by simp
    rw [List.cons_append, e]
    rw [e] at h
    have n1 := tokNum_sep (c :: x) t
    have n2 := tokVar_sep (c :: x) t hl
    have n3 := fun g => tokName_sep g (c :: x) t
    have n4 := tokSign_sep (c :: x) t
    have n5 := front_sep (p := Lx.inName) (by decide) t (c :: x)
    have n6 := tokStr_sep (c :: x) t r hl
    simp only [List.cons_append] at n1 n2 n3 n4 n5 n6
    rw [n1, n2, n3, n3, n4, n5]
    split at h
    · rename_i hc; rw [if_pos hc]; exact h
    · rename_i h0
      rw [if_neg h0]
      split at h
      · rename_i hc; rw [if_pos hc]; exact n6 h
      · rename_i h1
        rw [if_neg h1]
        exact h
theorem gapA_fuel : ∀ (f f' d b i : Nat) (l : List UInt8), l.length < f → l.length < f' → Lx.gapA f d b i l = Lx.gapA f' d b i l
  | 0, _, _, _, _, _, h, _ => by omega
  | f + 1, f', 0, b, i, l, h, h' => by
    obtain ⟨g, rfl⟩ : ∃ g, f' = g + 1 := ⟨f' - 1, by omega⟩
    unfold Lx.gapA
    split
    · rename_i hp
      have hl := (List.isPrefixOf_iff_prefix.1 hp).length_le
      simp at hl
      exact gapA_fuel f g 1 i (i + 2) (l.drop 2) (by rw [List.length_drop]; omega) (by rw [List.length_drop]; omega)
    · cases l with
      | nil => rfl
      | cons c r =>
        simp only
        rw [gapA_fuel f g 0 b (i + 1) r (by simpa using h) (by simpa using h')]
  | f + 1, f', d + 1, b, i, l, h, h' => by
    obtain ⟨g, rfl⟩ : ∃ g, f' = g + 1 := ⟨f' - 1, by omega⟩
    unfold Lx.gapA
    cases l with
    | nil => rfl
    | cons c r =>
      simp only
      simp only [List.length_cons] at h h'
      have hd : ((c :: r).drop 2).length ≤ r.length := by simp
      rw [gapA_fuel f g (d + 2) b (i + 2) ((c :: r).drop 2) (by omega) (by omega), gapA_fuel f g d b (i + 2) ((c :: r).drop 2) (by omega) (by omega), gapA_fuel f g (d + 1) b (i + 1) r (by omega) (by omega)]
theorem gapA_b : ∀ (f b b' i : Nat) (l : List UInt8), Lx.gapA f 0 b i l = Lx.gapA f 0 b' i l
  | 0, _, _, _, _ => rfl
  | f + 1, b, b', i, l => by
    unfold Lx.gapA
    split
    · rfl
    · cases l with
      | nil => rfl
      | cons c r =>
        simp only
        rw [gapA_b f b b' (i + 1) r]
theorem gapA_shift (c : Nat) : ∀ (f d b i : Nat) (l : List UInt8), Lx.gapA f d (b + c) (i + c) l = ((Lx.gapA f d b i l).1 + c, (Lx.gapA f d b i l).2)
  | 0, _, _, _, _ => rfl
  | f + 1, 0, b, i, l => by
    unfold Lx.gapA
    split
    · have := gapA_shift c f 1 i (i + 2) (l.drop 2)
      rw [show i + c + 2 = i + 2 + c from by omega]
      exact this
    · cases l with
      | nil => rfl
      | cons x r =>
        simp only
        split
        · have := gapA_shift c f 0 b (i + 1) r
          rw [show i + c + 1 = i + 1 + c from by omega]
          exact this
        · rfl
  | f + 1, d + 1, b, i, l => by
    unfold Lx.gapA
    cases l with
    | nil => rfl
    | cons x r =>
      simp only
      split
      · have := gapA_shift c f (d + 2) b (i + 2) ((x :: r).drop 2)
        rw [show i + c + 2 = i + 2 + c from by omega]
        exact this
      · split
        · have := gapA_shift c f d b (i + 2) ((x :: r).drop 2)
          rw [show i + c + 2 = i + 2 + c from by omega]
          exact this
        · have := gapA_shift c f (d + 1) b (i + 1) r
          rw [show i + c + 1 = i + 1 + c from by omega]
          exact this
end Go.Proofs.YtapdhlfgakbebaaDoor
