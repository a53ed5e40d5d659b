/-
  What is written of a string is read as that string. Plain words alone.
-/
import Derived.Test.YtapdhlfgakbebaaDoorW14
namespace Go.Proofs.YtapdhlfgakbebaaDoor
open Go.RowKit
theorem digit_of (x : Nat) (h : x < 10) : Lx.isDigit (UInt8.ofNat (48 + x)) = true ∧ (UInt8.ofNat (48 + x)).toNat - 48 = x := by
  have e : (UInt8.ofNat (48 + x)).toNat = 48 + x := UInt8.toNat_ofNat_of_lt' (by show _ < 256; omega)
  exact ⟨(isDigit_iff _).2 (by omega), by omega⟩
theorem digit_not_letter {d : UInt8} (h : Lx.isDigit d = true) : ∀ j, j < 4 → Lx.letters.getD j 0 ≠ d.toNat := by
  have := (isDigit_iff d).1 h
  intro j hj
  match j, hj with
  | 0, _ => show 110 ≠ _; omega
  | 1, _ => show 116 ≠ _; omega
  | 2, _ => show 92 ≠ _; omega
  | 3, _ => show 34 ≠ _; omega
theorem esc_num (c : UInt8) (r : List UInt8) : Lx.esc (UInt8.ofNat (48 + c.toNat / 100) :: UInt8.ofNat (48 + c.toNat / 10 % 10) :: UInt8.ofNat (48 + c.toNat % 10) :: r) = some (c, 3) := by
  have hc := c.toNat_lt
  obtain ⟨h1, e1⟩ := digit_of (c.toNat / 100) (by omega)
  obtain ⟨h2, e2⟩ := digit_of (c.toNat / 10 % 10) (by omega)
  obtain ⟨h3, e3⟩ := digit_of (c.toNat % 10) (by omega)
  rw [esc_miss _ _ (digit_not_letter h1)]
  show (if (Lx.isDigit _ && Lx.isDigit _ && Lx.isDigit _) = true then _ else none) = _
  rw [h1, h2, h3, if_pos (show (true && true && true) = true from rfl), e1, e2, e3]
  have e : 100 * (c.toNat / 100) + 10 * (c.toNat / 10 % 10) + c.toNat % 10 = c.toNat := by omega
  rw [e, if_pos (by omega), UInt8.ofNat_toNat]
theorem strA_step (f : Nat) (acc : List UInt8) (k : Nat) (c : UInt8) (r : List UInt8) : Lx.strA (f + 1) acc k (c :: r) = (if c < 32 then none
      else if c = 34 then (if acc.length ≤ 200 then some (acc, k + 1) else none)
      else if c = 92 then
        (match Lx.esc r with
        | none => none
        | some (b, j) => Lx.strA f (acc ++ [b]) (k + 1 + j) (r.drop j))
      else Lx.strA f (acc ++ [c]) (k + 1) r) := rfl
theorem strA_esc (f : Nat) (acc : List UInt8) (k : Nat) (r : List UInt8) (b : UInt8) (j : Nat) (h : Lx.esc r = some (b, j)) : Lx.strA (f + 1) acc k (92 :: r) = Lx.strA f (acc ++ [b]) (k + 1 + j) (r.drop j) := by
  rw [strA_step, if_neg (by decide), if_neg (by decide), if_pos rfl, h]
theorem strA_quoted : ∀ (l : List UInt8) (f : Nat) (acc : List UInt8) (k : Nat) (r : List UInt8), l.length < f →
    Lx.strA f acc k (l.flatMap Lx.qb ++ 34 :: r) = (if (acc ++ l).length ≤ 200 then some (acc ++ l, k + (l.flatMap Lx.qb).length + 1) else none)
  | [], f, acc, k, r, h => by
    obtain ⟨f', rfl⟩ : ∃ f', f = f' + 1 := ⟨f - 1, by omega⟩
    simp only [List.flatMap_nil, List.nil_append, List.append_nil, List.length_nil, Nat.add_zero]
    rw [strA_step, if_neg (by decide), if_pos rfl]
  | c :: l, f, acc, k, r, h => by
    obtain ⟨f', rfl⟩ : ∃ f', f = f' + 1 := ⟨f - 1, by omega⟩
    have ih := fun acc' k' => strA_quoted l f' acc' k' r (by simpa using h)
    have hfin : ∀ j, (Lx.qb c).length = j → Lx.strA f' (acc ++ [c]) (k + j) (l.flatMap Lx.qb ++ 34 :: r) = (if (acc ++ c :: l).length ≤ 200 then some (acc ++ c :: l, k + ((c :: l).flatMap Lx.qb).length + 1) else none) := by
      intro j hj
      have ea : acc ++ [c] ++ l = acc ++ c :: l := by simp
      have el : ((c :: l).flatMap Lx.qb).length = j + (l.flatMap Lx.qb).length := by rw [List.flatMap_cons, List.length_append, hj]
      rw [ih, ea, el, show k + j + (l.flatMap Lx.qb).length = k + (j + (l.flatMap Lx.qb).length) from by omega]
    rw [List.flatMap_cons, List.append_assoc]
    have two : ∀ (e : UInt8), Lx.qb c = [92, e] → (∀ r, Lx.esc (e :: r) = some (c, 1)) → Lx.strA (f' + 1) acc k (Lx.qb c ++ (l.flatMap Lx.qb ++ 34 :: r)) = (if (acc ++ c :: l).length ≤ 200 then some (acc ++ c :: l, k + ((c :: l).flatMap Lx.qb).length + 1) else none) := by
      intro e hq he
      rw [hq]
      show Lx.strA (f' + 1) acc k (92 :: e :: (l.flatMap Lx.qb ++ 34 :: r)) = _
      rw [strA_esc _ _ _ _ c 1 (he _)]
      exact hfin 2 (by rw [hq]; rfl)
    by_cases e10 : c = 10
    · subst e10; rw [← List.flatMap_cons]; exact two 110 rfl (fun r => rfl)
    by_cases e9 : c = 9
    · subst e9; rw [← List.flatMap_cons]; exact two 116 rfl (fun r => rfl)
    by_cases e92 : c = 92
    · subst e92; rw [← List.flatMap_cons]; exact two 92 rfl (fun r => rfl)
    by_cases e34 : c = 34
    · subst e34; rw [← List.flatMap_cons]; exact two 34 rfl (fun r => rfl)
    have hq : Lx.qb c = if c.toNat < 32 ∨ 126 < c.toNat then [92, UInt8.ofNat (48 + c.toNat / 100), UInt8.ofNat (48 + c.toNat / 10 % 10), UInt8.ofNat (48 + c.toNat % 10)] else [c] := by
      unfold Lx.qb
      rw [if_neg e10, if_neg e9, if_neg e92, if_neg e34]
    rw [← List.flatMap_cons]
    by_cases hctl : c.toNat < 32 ∨ 126 < c.toNat
    · rw [if_pos hctl] at hq
      rw [hq]
      show Lx.strA (f' + 1) acc k (92 :: UInt8.ofNat (48 + c.toNat / 100) :: UInt8.ofNat (48 + c.toNat / 10 % 10) :: UInt8.ofNat (48 + c.toNat % 10) :: (l.flatMap Lx.qb ++ 34 :: r)) = _
      rw [strA_esc _ _ _ _ c 3 (esc_num c _)]
      exact hfin 4 (by rw [hq]; rfl)
    · rw [if_neg hctl] at hq
      rw [hq]
      show Lx.strA (f' + 1) acc k (c :: (l.flatMap Lx.qb ++ 34 :: r)) = _
      rw [strA_step, if_neg (fun e => hctl (Or.inl (by simpa using UInt8.lt_iff_toNat_lt.1 e))), if_neg e34, if_neg e92]
      exact hfin 1 (by rw [hq]; rfl)
theorem qb_good (c : UInt8) : ∀ x ∈ Lx.qb c, Lx.good x = true := by
  have hc := c.toNat_lt
  intro x hx
  unfold Lx.qb at hx
  repeat' split at hx
  · simp only [List.mem_cons, List.not_mem_nil, or_false] at hx
    rcases hx with rfl | rfl <;> decide
  · simp only [List.mem_cons, List.not_mem_nil, or_false] at hx
    rcases hx with rfl | rfl <;> decide
  · simp only [List.mem_cons, List.not_mem_nil, or_false] at hx
    rcases hx with rfl | rfl <;> decide
  · simp only [List.mem_cons, List.not_mem_nil, or_false] at hx
    rcases hx with rfl | rfl <;> decide
  · simp only [List.mem_cons, List.not_mem_nil, or_false] at hx
    rcases hx with rfl | rfl | rfl | rfl
    · decide
    · exact (good_iff _).2 (by rw [UInt8.toNat_ofNat_of_lt' (by show _ < 256; omega)]; omega)
    · exact (good_iff _).2 (by rw [UInt8.toNat_ofNat_of_lt' (by show _ < 256; omega)]; omega)
    · exact (good_iff _).2 (by rw [UInt8.toNat_ofNat_of_lt' (by show _ < 256; omega)]; omega)
  · simp only [List.mem_cons, List.not_mem_nil, or_false] at hx
    subst hx
    exact (good_iff _).2 (by omega)
theorem takeWhile_all {p : UInt8 → Bool} : ∀ (l : List UInt8), (∀ x ∈ l, p x = true) → l.takeWhile p = l
  | [], _ => rfl
  | c :: r, h => by
    rw [List.takeWhile_cons, if_pos (h c (List.mem_cons_self ..)), takeWhile_all r (fun x hx => h x (List.mem_cons_of_mem _ hx))]
theorem quoted_ge (l : List UInt8) : l.length ≤ (l.flatMap Lx.qb).length := by
  induction l with
  | nil => simp
  | cons c r ih =>
    have : 1 ≤ (Lx.qb c).length := by
      unfold Lx.qb
      repeat' split
      all_goals simp
    simp only [List.flatMap_cons, List.length_append, List.length_cons]
    omega
theorem quote_good (l : List UInt8) : (Lx.quote l).takeWhile Lx.good = Lx.quote l := by
  have : ∀ x ∈ Lx.quote l, Lx.good x = true := by
    intro x hx
    unfold Lx.quote at hx
    simp only [List.mem_cons, List.mem_append, List.mem_flatMap, List.not_mem_nil, or_false] at hx
    rcases hx with rfl | ⟨c, _, hc⟩ | rfl
    · decide
    · exact qb_good c x hc
    · decide
  exact takeWhile_all _ this
theorem quote_len (l : List UInt8) : (Lx.quote l).length = (l.flatMap Lx.qb).length + 2 := by simp [Lx.quote]
theorem toks_quote_long (l : List UInt8) (h : 4000 < (Lx.quote l).length) : Lx.toks (Lx.quote l) = ([], 1, 0) := by
  unfold Lx.toks
  rw [if_pos h]
theorem toks_quote (l : List UInt8) (h : ¬ 4000 < (Lx.quote l).length) : Lx.toks (Lx.quote l) = if l.length ≤ 200 then ([(0, ⟨2, l, 0⟩), ((Lx.quote l).length, ⟨0, [], 0⟩)], 0, 0) else ([], 3, 0) := by
  unfold Lx.toks
  rw [if_neg h, quote_good, if_neg (Nat.lt_irrefl _)]
  have hlq : l.length ≤ (l.flatMap Lx.qb).length := quoted_ge l
  have hgap : Lx.gap (Lx.quote l) = (0, true) := rfl
  have htok : Lx.tok (Lx.quote l) = if l.length ≤ 200 then some (⟨2, l, 0⟩, (Lx.quote l).length) else none := by
    show Lx.tokStr (Lx.quote l) = _
    rw [tokStr_eq]
    have e := strA_quoted l (Lx.quote l).length [] 1 [] (by rw [quote_len]; omega)
    show strTok (Lx.strA (Lx.quote l).length [] 1 (l.flatMap Lx.qb ++ [34])) = _
    rw [e, List.nil_append, quote_len]
    split
    · show some (_, _) = some (_, _)
      rw [show 1 + (l.flatMap Lx.qb).length + 1 = (l.flatMap Lx.qb).length + 2 from by omega]
    · rfl
  by_cases h2 : l.length ≤ 200
  · rw [if_pos h2] at htok ⊢
    rw [toksA_some _ _ _ ⟨2, l, 0⟩ (Lx.quote l).length (by rw [hgap]) (by rw [hgap]; simp [Lx.quote]) (by rw [hgap]; exact htok), hgap]
    simp only [Nat.zero_add, List.drop_length]
    obtain ⟨n, hn⟩ : ∃ n, (Lx.quote l).length = n + 1 := ⟨(Lx.quote l).length - 1, by rw [quote_len]; omega⟩
    rw [hn, toksA_over n (n + 1) [] rfl rfl]
    rfl
  · rw [if_neg h2] at htok ⊢
    rw [toksA_none _ _ _ (by rw [hgap]) (by rw [hgap]; simp [Lx.quote]) (by rw [hgap]; exact htok), hgap]
    rfl
end Go.Proofs.YtapdhlfgakbebaaDoor
