/-
  The tokens of two texts side by side, a newline between, are those of both (the second part). Plain words alone.
-/
import Derived.Test.YtapdhlfgakbebaaDoorSPlain
namespace Go.Proofs.YtapdhlfgakbebaaDoor
open Go.RowKit
theorem gapA_blank (f b i : Nat) (t : List UInt8) : Lx.gapA (f + 1) 0 b i (10 :: t) = Lx.gapA f 0 b (i + 1) t := rfl
/-- The gap of a text that goes on behind a newline. -/
theorem gapA_sep (t : List UInt8) : ∀ (f d b i : Nat) (x : List UInt8) (F : Nat), x.length < f → x.length + 1 + t.length < F → (Lx.gapA f d b i x).2 = true →
    ((Lx.gapA f d b i x).1 < i + x.length ∧ Lx.gapA F d b i (x ++ 10 :: t) = Lx.gapA f d b i x) ∨ ((Lx.gapA f d b i x).1 = i + x.length ∧ ∃ b', Lx.gapA F d b i (x ++ 10 :: t) = Lx.gapA (t.length + 1) 0 b' (i + x.length + 1) t)
  | 0, _, _, _, _, _, h, _, _ => by omega
  | f + 1, 0, b, i, x, F, h, hF, hg => by
    obtain ⟨F', rfl⟩ : ∃ F', F = F' + 1 := ⟨F - 1, by omega⟩
    cases hp : [40, 42].isPrefixOf x
    · cases x with
      | nil =>
        refine Or.inr ⟨by simp [Lx.gapA], b, ?_⟩
        rw [List.nil_append, gapA_blank]
        exact gapA_fuel _ _ _ _ _ _ (by simp at hF; omega) (by omega)
      | cons c r =>
        have hp2 := prefix_sep t [40, 42] (c :: r) (by decide)
        rw [hp] at hp2
        have e1 : Lx.gapA (f + 1) 0 b i (c :: r) = (if Lx.isBlank c then Lx.gapA f 0 b (i + 1) r else (i, true)) := by
          show (if [40, 42].isPrefixOf (c :: r) = true then _ else _) = _
          rw [hp]; rfl
        have e2 : Lx.gapA (F' + 1) 0 b i (c :: r ++ 10 :: t) = (if Lx.isBlank c then Lx.gapA F' 0 b (i + 1) (r ++ 10 :: t) else (i, true)) := by
          show (if [40, 42].isPrefixOf (c :: r ++ 10 :: t) = true then _ else _) = _
          rw [hp2]; rfl
        rw [e1] at hg ⊢
        rw [e2]
        cases hb : Lx.isBlank c
        · exact Or.inl ⟨by simp, rfl⟩
        · rw [hb, if_pos rfl] at hg
          simp only [if_true]
          simp only [List.length_cons] at h hF ⊢
          rcases gapA_sep t f 0 b (i + 1) r F' (by omega) (by omega) hg with ⟨q1, q2⟩ | ⟨q1, b', q2⟩
          · exact Or.inl ⟨by omega, q2⟩
          · exact Or.inr ⟨by omega, b', by rw [q2, show i + 1 + r.length + 1 = i + (r.length + 1) + 1 from by omega]⟩
    · have hl := (List.isPrefixOf_iff_prefix.1 hp).length_le
      simp at hl
      have hp2 := prefix_sep t [40, 42] x (by decide)
      rw [hp] at hp2
      have e1 : Lx.gapA (f + 1) 0 b i x = Lx.gapA f 1 i (i + 2) (x.drop 2) := by
        show (if [40, 42].isPrefixOf x = true then _ else _) = _
        rw [hp]; rfl
      have e2 : Lx.gapA (F' + 1) 0 b i (x ++ 10 :: t) = Lx.gapA F' 1 i (i + 2) (x.drop 2 ++ 10 :: t) := by
        show (if [40, 42].isPrefixOf (x ++ 10 :: t) = true then _ else _) = _
        rw [hp2, ← drop_sep x t 2 hl]; rfl
      rw [e1] at hg ⊢
      rw [e2]
      rcases gapA_sep t f 1 i (i + 2) (x.drop 2) F' (by rw [List.length_drop]; omega) (by rw [List.length_drop]; omega) hg with ⟨q1, q2⟩ | ⟨q1, b', q2⟩
      · rw [List.length_drop] at q1
        exact Or.inl ⟨by omega, q2⟩
      · rw [List.length_drop] at q1 q2
        exact Or.inr ⟨by omega, b', by rw [q2, show i + 2 + (x.length - 2) + 1 = i + x.length + 1 from by omega]⟩
  | f + 1, d + 1, b, i, x, F, h, hF, hg => by
    obtain ⟨F', rfl⟩ : ∃ F', F = F' + 1 := ⟨F - 1, by omega⟩
    cases x with
    | nil => simp [Lx.gapA] at hg
    | cons c r =>
      have hp2 := prefix_sep t [40, 42] (c :: r) (by decide)
      have hq2 := prefix_sep t [42, 41] (c :: r) (by decide)
      have e1 : Lx.gapA (f + 1) (d + 1) b i (c :: r) = (if [40, 42].isPrefixOf (c :: r) then Lx.gapA f (d + 2) b (i + 2) ((c :: r).drop 2) else if [42, 41].isPrefixOf (c :: r) then Lx.gapA f d b (i + 2) ((c :: r).drop 2) else Lx.gapA f (d + 1) b (i + 1) r) := rfl
      have e2 : Lx.gapA (F' + 1) (d + 1) b i (c :: r ++ 10 :: t) = (if [40, 42].isPrefixOf (c :: r ++ 10 :: t) then Lx.gapA F' (d + 2) b (i + 2) ((c :: r ++ 10 :: t).drop 2) else if [42, 41].isPrefixOf (c :: r ++ 10 :: t) then Lx.gapA F' d b (i + 2) ((c :: r ++ 10 :: t).drop 2) else Lx.gapA F' (d + 1) b (i + 1) (r ++ 10 :: t)) := rfl
      rw [e1] at hg ⊢
      rw [e2, hp2, hq2]
      have two : ∀ d', 2 ≤ (c :: r).length → (Lx.gapA f d' b (i + 2) ((c :: r).drop 2)).2 = true → ((Lx.gapA f d' b (i + 2) ((c :: r).drop 2)).1 < i + (c :: r).length ∧ Lx.gapA F' d' b (i + 2) ((c :: r ++ 10 :: t).drop 2) = Lx.gapA f d' b (i + 2) ((c :: r).drop 2)) ∨
          ((Lx.gapA f d' b (i + 2) ((c :: r).drop 2)).1 = i + (c :: r).length ∧ ∃ b', Lx.gapA F' d' b (i + 2) ((c :: r ++ 10 :: t).drop 2) = Lx.gapA (t.length + 1) 0 b' (i + (c :: r).length + 1) t) := by
        intro d' hl hgd
        rw [drop_sep (c :: r) t 2 hl]
        rcases gapA_sep t f d' b (i + 2) ((c :: r).drop 2) F' (by rw [List.length_drop]; omega) (by rw [List.length_drop]; omega) hgd with ⟨q1, q2⟩ | ⟨q1, b', q2⟩
        · rw [List.length_drop] at q1
          exact Or.inl ⟨by omega, q2⟩
        · rw [List.length_drop] at q1 q2
          exact Or.inr ⟨by omega, b', by rw [q2, show i + 2 + ((c :: r).length - 2) + 1 = i + (c :: r).length + 1 from by omega]⟩
      cases hp : [40, 42].isPrefixOf (c :: r)
      · cases hq : [42, 41].isPrefixOf (c :: r)
        · rw [hp, hq] at hg
          simp only [Bool.false_eq_true, if_false] at hg ⊢
          simp only [List.length_cons] at h hF ⊢
          rcases gapA_sep t f (d + 1) b (i + 1) r F' (by omega) (by omega) hg with ⟨q1, q2⟩ | ⟨q1, b', q2⟩
          · exact Or.inl ⟨by omega, q2⟩
          · exact Or.inr ⟨by omega, b', by rw [q2, show i + 1 + r.length + 1 = i + (r.length + 1) + 1 from by omega]⟩
        · rw [hp, hq] at hg
          simp only [Bool.false_eq_true, if_false, if_true] at hg ⊢
          exact two d (List.isPrefixOf_iff_prefix.1 hq).length_le hg
      · rw [hp] at hg
        simp only [if_true] at hg ⊢
        exact two (d + 2) (List.isPrefixOf_iff_prefix.1 hp).length_le hg
theorem gap_sep_in (x t : List UInt8) (hg : (Lx.gap x).2 = true) (hd : x.drop (Lx.gap x).1 ≠ []) : Lx.gap (x ++ 10 :: t) = Lx.gap x := by
  rcases gapA_sep t (x.length + 1) 0 0 0 x ((x ++ 10 :: t).length + 1) (by omega) (by simp; omega) hg with ⟨q1, q2⟩ | ⟨q1, _⟩
  · exact q2
  · exact absurd (List.drop_of_length_le (by unfold Lx.gap; omega)) hd
theorem gap_sep_out (x t : List UInt8) (hg : (Lx.gap x).2 = true) (hd : x.drop (Lx.gap x).1 = []) : Lx.gap (x ++ 10 :: t) = (x.length + 1 + (Lx.gap t).1, (Lx.gap t).2) := by
  rcases gapA_sep t (x.length + 1) 0 0 0 x ((x ++ 10 :: t).length + 1) (by omega) (by simp; omega) hg with ⟨q1, _⟩ | ⟨_, b', q2⟩
  · have := congrArg List.length hd
    rw [List.length_drop] at this
    unfold Lx.gap at this
    simp at this
    omega
  · unfold Lx.gap
    have e := gapA_shift (x.length + 1) (t.length + 1) 0 0 0 t
    rw [show 0 + (x.length + 1) = 0 + x.length + 1 from by omega] at e
    rw [q2, gapA_b _ b' (0 + x.length + 1), e]
    exact Prod.ext (by simp; omega) rfl
theorem toksA_fuel : ∀ (f f' a : Nat) (l : List UInt8), l.length < f → l.length < f' → Lx.toksA f a l = Lx.toksA f' a l
  | 0, _, _, _, h, _ => by omega
  | f + 1, f', a, l, h, h' => by
    obtain ⟨g, rfl⟩ : ∃ g, f' = g + 1 := ⟨f' - 1, by omega⟩
    cases hg : (Lx.gap l).2
    · rw [toksA_unended _ _ _ hg, toksA_unended _ _ _ hg]
    · by_cases hd : l.drop (Lx.gap l).1 = []
      · rw [toksA_over _ _ _ hg hd, toksA_over _ _ _ hg hd]
      · cases ht : Lx.tok (l.drop (Lx.gap l).1) with
        | none => rw [toksA_none _ _ _ hg hd ht, toksA_none _ _ _ hg hd ht]
        | some p =>
          obtain ⟨t, k⟩ := p
          have hk := tok_le _ _ _ ht
          rw [List.length_drop] at hk
          rw [toksA_some _ _ _ t k hg hd ht, toksA_some _ _ _ t k hg hd ht, toksA_fuel f g _ _ (by rw [List.length_drop]; omega) (by rw [List.length_drop]; omega)]
theorem toksA_ne : ∀ (f a : Nat) (l : List UInt8), l.length < f → (Lx.toksA f a l).2 = (0, 0) → (Lx.toksA f a l).1 ≠ []
  | 0, _, _, h, _ => by omega
  | f + 1, a, l, h, hf => by
    cases hg : (Lx.gap l).2
    · rw [toksA_unended _ _ _ hg] at hf
      simp at hf
    · by_cases hd : l.drop (Lx.gap l).1 = []
      · rw [toksA_over _ _ _ hg hd]; simp
      · cases ht : Lx.tok (l.drop (Lx.gap l).1) with
        | none => rw [toksA_none _ _ _ hg hd ht] at hf; simp at hf
        | some p => rw [toksA_some _ _ _ p.1 p.2 hg hd ht]; simp
def shiftTok (c : Nat) (p : Nat × Lx.Tok) : Nat × Lx.Tok := (p.1 + c, p.2)
theorem toksA_shift (c : Nat) : ∀ (f a : Nat) (l : List UInt8), (Lx.toksA f a l).2 = (0, 0) → Lx.toksA f (a + c) l = ((Lx.toksA f a l).1.map (shiftTok c), 0, 0)
  | 0, _, _, _ => rfl
  | f + 1, a, l, hf => by
    cases hg : (Lx.gap l).2
    · rw [toksA_unended _ _ _ hg] at hf
      simp at hf
    · by_cases hd : l.drop (Lx.gap l).1 = []
      · rw [toksA_over _ _ _ hg hd, toksA_over _ _ _ hg hd]
        simp [shiftTok]
        omega
      · cases ht : Lx.tok (l.drop (Lx.gap l).1) with
        | none => rw [toksA_none _ _ _ hg hd ht] at hf; simp at hf
        | some p =>
          obtain ⟨t, k⟩ := p
          rw [toksA_some _ _ _ t k hg hd ht] at hf
          rw [toksA_some _ _ _ t k hg hd ht, toksA_some _ _ _ t k hg hd ht]
          have ih := toksA_shift c f (a + (Lx.gap l).1 + k) (l.drop ((Lx.gap l).1 + k)) hf
          rw [show a + c + (Lx.gap l).1 + k = a + (Lx.gap l).1 + k + c from by omega, ih]
          simp [shiftTok]
          omega
theorem toksA_sep (t : List UInt8) : ∀ (f a : Nat) (x : List UInt8) (F : Nat), x.length < f → x.length + 1 + t.length < F → (Lx.toksA f a x).2 = (0, 0) →
    Lx.toksA F a (x ++ 10 :: t) = ((Lx.toksA f a x).1.dropLast ++ (Lx.toksA (t.length + 1) (a + x.length + 1) t).1, (Lx.toksA (t.length + 1) (a + x.length + 1) t).2)
  | 0, _, _, _, h, _, _ => by omega
  | f + 1, a, x, F, h, hF, hf => by
    obtain ⟨F', rfl⟩ : ∃ F', F = F' + 1 := ⟨F - 1, by omega⟩
    cases hg : (Lx.gap x).2
    · rw [toksA_unended _ _ _ hg] at hf
      simp at hf
    · by_cases hd : x.drop (Lx.gap x).1 = []
      · rw [toksA_over _ _ _ hg hd]
        have eg := gap_sep_out x t hg hd
        have ed : (x ++ 10 :: t).drop (x.length + 1 + (Lx.gap t).1) = t.drop (Lx.gap t).1 := by
          rw [← List.drop_drop]
          congr 1
          rw [show x ++ 10 :: t = (x ++ [10]) ++ t from by simp, List.drop_left' (by simp)]
        show _ = ([] ++ (Lx.toksA (t.length + 1) (a + x.length + 1) t).1, _)
        rw [List.nil_append]
        show Lx.toksA (F' + 1) a (x ++ 10 :: t) = Lx.toksA (t.length + 1) (a + x.length + 1) t
        cases hgt : (Lx.gap t).2
        · rw [toksA_unended _ _ _ (by rw [eg]; exact hgt), toksA_unended _ _ _ hgt, eg]
          simp
          omega
        · by_cases hdt : t.drop (Lx.gap t).1 = []
          · rw [toksA_over _ _ _ (by rw [eg]; exact hgt) (by rw [eg]; simp only; rw [ed]; exact hdt), toksA_over _ _ _ hgt hdt, eg]
            simp
            omega
          · cases htt : Lx.tok (t.drop (Lx.gap t).1) with
            | none =>
              rw [toksA_none _ _ _ (by rw [eg]; exact hgt) (by rw [eg]; simp only; rw [ed]; exact hdt) (by rw [eg]; simp only; rw [ed]; exact htt), toksA_none _ _ _ hgt hdt htt, eg]
              simp
              omega
            | some p =>
              obtain ⟨tk, k⟩ := p
              have hk := tok_le _ _ _ htt
              rw [List.length_drop] at hk
              have ed2 : (x ++ 10 :: t).drop (x.length + 1 + (Lx.gap t).1 + k) = t.drop ((Lx.gap t).1 + k) := by
                rw [← List.drop_drop, ed, List.drop_drop]
              rw [toksA_some _ _ _ tk k (by rw [eg]; exact hgt) (by rw [eg]; simp only; rw [ed]; exact hdt) (by rw [eg]; simp only; rw [ed]; exact htt), toksA_some _ _ _ tk k hgt hdt htt, eg]
              simp only
              rw [ed2, show a + (x.length + 1 + (Lx.gap t).1) = a + x.length + 1 + (Lx.gap t).1 from by omega, toksA_fuel F' t.length _ _ (by rw [List.length_drop]; omega) (by rw [List.length_drop]; omega)]
      · cases ht : Lx.tok (x.drop (Lx.gap x).1) with
        | none => rw [toksA_none _ _ _ hg hd ht] at hf; simp at hf
        | some p =>
          obtain ⟨tk, k⟩ := p
          have hk := tok_le _ _ _ ht
          rw [List.length_drop] at hk
          have hgl := gap_le x
          have eg := gap_sep_in x t hg hd
          have ed : (x ++ 10 :: t).drop (Lx.gap x).1 = x.drop (Lx.gap x).1 ++ 10 :: t := drop_sep x t _ hgl
          have ed2 : (x ++ 10 :: t).drop ((Lx.gap x).1 + k) = x.drop ((Lx.gap x).1 + k) ++ 10 :: t := drop_sep x t _ (by omega)
          rw [toksA_some _ _ _ tk k hg hd ht] at hf
          rw [toksA_some _ _ _ tk k hg hd ht, toksA_some _ _ _ tk k (by rw [eg]; exact hg) (by rw [eg, ed]; simp) (by rw [eg, ed]; exact tok_sep _ t _ ht), eg, ed2]
          have hl2 : (x.drop ((Lx.gap x).1 + k)).length = x.length - ((Lx.gap x).1 + k) := List.length_drop ..
          have ih := toksA_sep t f (a + (Lx.gap x).1 + k) (x.drop ((Lx.gap x).1 + k)) F' (by omega) (by omega) hf
          have hne := toksA_ne f (a + (Lx.gap x).1 + k) (x.drop ((Lx.gap x).1 + k)) (by omega) hf
          rw [ih, hl2, show a + (Lx.gap x).1 + k + (x.length - ((Lx.gap x).1 + k)) + 1 = a + x.length + 1 from by omega, List.dropLast_cons_of_ne_nil hne]
          rfl
theorem takeWhile_whole {p : UInt8 → Bool} : ∀ (l : List UInt8), (∀ x ∈ l, p x = true) → l.takeWhile p = l
  | [], _ => rfl
  | c :: r, h => by
    rw [List.takeWhile_cons, if_pos (h c (List.mem_cons_self ..)), takeWhile_whole r (fun x hx => h x (List.mem_cons_of_mem _ hx))]
/-- Two texts that are read, side by side with a newline between. -/
theorem toks_sep (x t : List UInt8) (hx : (Lx.toks x).2 = (0, 0)) (ht : (Lx.toks t).2 = (0, 0)) (hl : ¬ 4000 < x.length + t.length + 1) :
    Lx.toks (x ++ 10 :: t) = ((Lx.toks x).1.dropLast ++ (Lx.toks t).1.map (shiftTok (x.length + 1)), 0, 0) ∧ (Lx.toks x).1 ≠ [] := by
  have good_of : ∀ l : List UInt8, (Lx.toks l).2 = (0, 0) → (∀ c ∈ l, Lx.good c = true) ∧ Lx.toks l = Lx.toksA (l.length + 1) 0 l := by
    intro l h
    unfold Lx.toks at h ⊢
    split at h
    · simp at h
    · rename_i h1
      split at h
      · simp at h
      · rename_i h2
        rw [if_neg h1, if_neg h2]
        refine ⟨?_, rfl⟩
        have hle := front_le Lx.good l
        have hall : l.takeWhile Lx.good = l := (List.takeWhile_prefix Lx.good).eq_of_length (by omega)
        intro c hc
        rw [← hall] at hc
        exact mem_front hc
  obtain ⟨gx, ex⟩ := good_of x hx
  obtain ⟨gt, et⟩ := good_of t ht
  have e : Lx.toks (x ++ 10 :: t) = Lx.toksA ((x ++ 10 :: t).length + 1) 0 (x ++ 10 :: t) := by
    unfold Lx.toks
    rw [if_neg (by simp; omega), if_neg]
    have : (x ++ 10 :: t).takeWhile Lx.good = x ++ 10 :: t := by
      refine takeWhile_whole _ fun c hc => ?_
      simp only [List.mem_append, List.mem_cons] at hc
      rcases hc with hc | rfl | hc
      · exact gx c hc
      · decide
      · exact gt c hc
    rw [this]
    exact Nat.lt_irrefl _
  rw [ex] at hx
  rw [et] at ht
  have hs := toksA_sep t (x.length + 1) 0 x ((x ++ 10 :: t).length + 1) (by omega) (by simp; omega) hx
  have hsh := toksA_shift (x.length + 1) (t.length + 1) 0 t ht
  rw [show 0 + (x.length + 1) = 0 + x.length + 1 from by omega] at hsh
  refine ⟨?_, ?_⟩
  · rw [e, hs, hsh, ex, et]
  · rw [ex]; exact toksA_ne _ _ _ (by omega) hx
end Go.Proofs.YtapdhlfgakbebaaDoor
