/-
  What is written of a code is read as that code; what is read is written as it was (in plain words).
-/
import Derived.Test.YtlekoldicnfeeaaDoorC19
namespace Go.Proofs.YtlekoldicnfeeaaDoor
open Go.RowKit Go.Deep
theorem extract_bytes (S : ByteArray) (p k : Nat) : bytesOf (S.extract p (p + k)) = ((bytesOf S).drop p).take k := by
  unfold bytesOf
  rw [ByteArray.data_extract, Array.toList_extract, List.extract_eq_take_drop]
  congr 1
  omega
theorem bytesOf_inj {a b : ByteArray} (h : bytesOf a = bytesOf b) : a = b := by
  obtain ⟨x⟩ := a
  obtain ⟨y⟩ := b
  unfold bytesOf at h
  congr
  exact Array.ext' h
theorem text_fwd {S t : ByteArray} {ts : List ByteArray} {r r' : Rs} (h : textOk t = true) (hr : Rd S r (textB t) r') : textR S (ts, r) = (ts ++ [t], r') := by
  unfold textB at hr
  obtain ⟨r1, k1, k2⟩ := hr.split
  have ht : (t.size : Int) ≤ 200 := by unfold textOk at h; simpa using h
  have n1 := num_fwd k1 (by omega) (by omega)
  unfold textR textTake
  simp only
  rw [n1]
  simp only
  have hl : t.data.toList.length = t.size := Array.length_toList
  have hle := k2.le
  rw [hl] at hle
  rw [if_pos k2.ok, if_neg (by omega), if_neg (by omega), Int.toNat_natCast]
  have hx : S.extract r1.pos (r1.pos + t.size) = t := by
    apply bytesOf_inj
    rw [extract_bytes, k2.is, List.take_append_of_le_length (by rw [hl]; omega), ← hl, List.take_length]
    rfl
  rw [hx, k2.ends, hl, k2.ok]
theorem text_bwd {S : ByteArray} {ts : List ByteArray} {r : Rs} (h : (textR S (ts, r)).2.kind = 0) : ∃ t, (textR S (ts, r)).1 = ts ++ [t] ∧ textOk t = true ∧ Rd S r (textB t) (textR S (ts, r)).2 := by
  unfold textR textTake at *
  simp only at *
  by_cases hk : (r.num S 1).2.kind = 0
  · rw [if_pos hk] at h ⊢
    have hb := num_bwd hk
    have hr := r.num_range S 1
    generalize r.num S 1 = N at *
    obtain ⟨kv, r1⟩ := N
    simp only at *
    split at h
    · exact absurd h (fail_ne (by decide))
    · rename_i h1
      split at h
      · exact absurd h (fail_ne (by decide))
      · rename_i h2
        rw [if_neg h1, if_neg h2]
        have hsz : (S.extract r1.pos (r1.pos + kv.toNat)).size = kv.toNat := by
          rw [ByteArray.size_extract]
          omega
        refine ⟨_, rfl, ?_, ?_⟩
        · unfold textOk
          rw [hsz]
          simp
          omega
        · unfold textB
          rw [hsz]
          have hbk : ((kv.toNat : Nat) : Int) = kv := by omega
          rw [hbk]
          have hl : (S.extract r1.pos (r1.pos + kv.toNat)).data.toList.length = kv.toNat := Eq.trans Array.length_toList hsz
          refine hb.comp ⟨hk, ?_, ?_, ?_⟩
          · rw [hl, hk]
          · rw [hl]
            omega
          · rw [hl]
            have hx := extract_bytes S r1.pos kv.toNat
            unfold bytesOf at hx
            rw [hx, ← List.drop_drop]
            exact (List.take_append_drop _ _).symm
  · rw [if_neg hk] at h
    exact absurd h hk
theorem texts_fwd {S : ByteArray} : ∀ (l : List ByteArray) (acc : List ByteArray) (r r' : Rs), l.all textOk = true → Rd S r (l.flatMap textB) r' → textsR S l.length (acc, r) = (acc ++ l, r')
  | [], acc, r, r', _, h => by rw [h.same]; simp [textsR]
  | x :: l, acc, r, r', ho, h => by
    rw [List.all_cons, Bool.and_eq_true] at ho
    rw [List.flatMap_cons] at h
    obtain ⟨r1, k1, k2⟩ := h.split
    have hi := text_fwd (ts := acc) ho.1 k1
    rw [List.length_cons, textsR]
    simp only
    rw [if_pos h.ok, hi, texts_fwd l _ r1 r' ho.2 k2]
    simp
theorem texts_bwd {S : ByteArray} : ∀ (n : Nat) (acc : List ByteArray) (r : Rs), r.pos ≤ S.size → (textsR S n (acc, r)).2.kind = 0 → ∃ l : List ByteArray, l.length = n ∧ (textsR S n (acc, r)).1 = acc ++ l ∧ l.all textOk = true ∧ Rd S r (l.flatMap textB) (textsR S n (acc, r)).2
  | 0, acc, r, hp, h => ⟨[], rfl, by simp [textsR], rfl, Rd.nil h hp⟩
  | n + 1, acc, r, hp, h => by
    rw [textsR] at h ⊢
    simp only at h ⊢
    by_cases hk : r.kind = 0
    · rw [if_pos hk] at h ⊢
      have hk1 : (textR S (acc, r)).2.kind = 0 := by
        generalize textR S (acc, r) = X at h
        obtain ⟨x, r1⟩ := X
        cases n with
        | zero => exact h
        | succ n =>
          rw [textsR] at h
          simp only at h
          split at h
          · assumption
          · assumption
      obtain ⟨t, h0, h1, h2⟩ := text_bwd hk1
      have hp1 : (textR S (acc, r)).2.pos ≤ S.size := by have := h2.le; rw [h2.pos]; exact this
      generalize textR S (acc, r) = X at *
      obtain ⟨x, r1⟩ := X
      simp only at h0 hp1 h2
      subst h0
      obtain ⟨l, k1, k2, k3, k4⟩ := texts_bwd n _ _ hp1 h
      refine ⟨t :: l, by simp [k1], by rw [k2]; simp, by simp [h1, k3], ?_⟩
      rw [List.flatMap_cons]
      exact h2.comp k4
    · rw [if_neg hk] at h
      exact absurd h hk
theorem head_step {S : ByteArray} {i : Nat} {r : Rs} (h : (headStep S i r).kind = 0) : headStep S i r = r ∧ i < S.size ∧ byteAt S i = headAt i := by
  unfold headStep at *
  split at h
  · exact absurd h (fail_ne (by decide))
  · rename_i h1
    split at h
    · rename_i h2
      rw [if_neg h1, if_pos h2]
      exact ⟨rfl, by omega, h2⟩
    · exact absurd h (fail_ne (by decide))
theorem drop_byte {S : ByteArray} {i : Nat} (h : i < S.size) : (bytesOf S).drop i = byteAt S i :: (bytesOf S).drop (i + 1) := by
  have hl : i < (bytesOf S).length := by rw [bytesOf_len]; exact h
  rw [List.drop_eq_getElem_cons hl]
  congr 1
  unfold byteAt
  unfold bytesOf at hl ⊢
  rw [List.getElem?_eq_getElem hl]
  rfl
theorem head_bwd {S : ByteArray} (h : (headR S 3 0 ⟨0, 0, 0⟩).kind = 0) : headR S 3 0 ⟨0, 0, 0⟩ = ⟨0, 0, 0⟩ ∧ 3 ≤ S.size ∧ bytesOf S = [77, 76, 49] ++ (bytesOf S).drop 3 := by
  have key : ∀ n i, (headR S n i ⟨0, 0, 0⟩).kind = 0 → headR S n i ⟨0, 0, 0⟩ = ⟨0, 0, 0⟩ ∧ ∀ j, j < n → i + j < S.size ∧ byteAt S (i + j) = headAt (i + j) := by
    intro n
    induction n with
    | zero => exact fun i _ => ⟨rfl, fun j hj => by omega⟩
    | succ n ih =>
      intro i hk
      rw [headR, if_pos rfl] at hk ⊢
      have h1 : (headStep S i ⟨0, 0, 0⟩).kind = 0 := by
        cases n with
        | zero => exact hk
        | succ n =>
          rw [headR] at hk
          split at hk
          · assumption
          · assumption
      obtain ⟨e1, e2, e3⟩ := head_step h1
      rw [e1] at hk ⊢
      obtain ⟨g1, g2⟩ := ih (i + 1) hk
      refine ⟨g1, fun j hj => ?_⟩
      cases j with
      | zero => exact ⟨e2, e3⟩
      | succ j =>
        have := g2 j (by omega)
        rw [show i + (j + 1) = i + 1 + j by omega]
        exact this
  obtain ⟨h1, h2⟩ := key 3 0 h
  have a0 := h2 0 (by omega)
  have a1 := h2 1 (by omega)
  have a2 := h2 2 (by omega)
  simp only [Nat.zero_add] at a0 a1 a2
  refine ⟨h1, by omega, ?_⟩
  have d0 := drop_byte a0.1
  have d1 := drop_byte a1.1
  have d2 := drop_byte a2.1
  rw [List.drop_zero] at d0
  rw [d0]
  simp only [Nat.zero_add] at d1 d2 ⊢
  rw [d1, d2, a0.2, a1.2, a2.2]
  simp [headAt]
theorem head_fwd {S : ByteArray} {R : List UInt8} (h : bytesOf S = [77, 76, 49] ++ R) : headR S 3 0 ⟨0, 0, 0⟩ = ⟨0, 0, 0⟩ := by
  have hl := congrArg List.length h
  rw [bytesOf_len, List.length_append] at hl
  have hl3 : 3 ≤ S.size := by
    have : ([77, 76, 49] : List UInt8).length = 3 := rfl
    omega
  have b0 := byteAt_drop S 0 0 [] 77 ([76, 49] ++ R) (by rw [List.drop_zero, h]; rfl) rfl
  have b1 := byteAt_drop S 0 1 [77] 76 ([49] ++ R) (by rw [List.drop_zero, h]; rfl) rfl
  have b2 := byteAt_drop S 0 2 [77, 76] 49 R (by rw [List.drop_zero, h]; rfl) rfl
  simp only [Nat.zero_add] at b0 b1 b2
  have s0 : headStep S 0 ⟨0, 0, 0⟩ = ⟨0, 0, 0⟩ := by unfold headStep; rw [if_neg (by omega), b0, if_pos (by rfl)]
  have s1 : headStep S 1 ⟨0, 0, 0⟩ = ⟨0, 0, 0⟩ := by unfold headStep; rw [if_neg (by omega), b1, if_pos (by rfl)]
  have s2 : headStep S 2 ⟨0, 0, 0⟩ = ⟨0, 0, 0⟩ := by unfold headStep; rw [if_neg (by omega), b2, if_pos (by rfl)]
  simp only [headR, Nat.zero_add, s0, s1, s2, if_true]
theorem cd_ok {c : Cd} (h : c.ok = true) : isTwo c.texts.length = true ∧ c.texts.all textOk = true ∧ isTwo c.funs.length = true ∧ c.funs.all Fn.ok = true := by
  unfold Cd.ok at h
  simp only [Bool.and_eq_true] at h
  exact h
/-- What is written is read as it was. -/
theorem dec_enc (c : Cd) (h : c.ok = true) (hl : c.bytes.length ≤ 4000000) : decR { data := c.bytes.toArray } = (c, 0, 0) := by
  obtain ⟨ts, fs⟩ := c
  obtain ⟨h1, h2, h3, h4⟩ := cd_ok h
  simp only at h1 h2 h3 h4
  generalize hS : ({ data := (Cd.bytes ⟨ts, fs⟩).toArray } : ByteArray) = S
  have hb : bytesOf S = Cd.bytes ⟨ts, fs⟩ := by rw [← hS]; simp [bytesOf]
  have hsz : S.size = (Cd.bytes ⟨ts, fs⟩).length := by rw [← bytesOf_len, hb]
  have hb2 : bytesOf S = [77, 76, 49] ++ (big ts.length 2 ++ (ts.flatMap textB ++ (big fs.length 2 ++ fs.flatMap Fn.bytes))) := hb
  unfold decR
  rw [if_neg (by omega), head_fwd hb2]
  unfold decHead
  have hR : Rd S ⟨3, 0, 0⟩ (big ts.length 2 ++ (ts.flatMap textB ++ (big fs.length 2 ++ fs.flatMap Fn.bytes))) ⟨S.size, 0, 0⟩ := by
    have hsz2 : S.size = 3 + (big ts.length 2 ++ (ts.flatMap textB ++ (big fs.length 2 ++ fs.flatMap Fn.bytes))).length := by
      rw [← bytesOf_len, hb2, List.length_append]
      rfl
    refine ⟨rfl, ?_, ?_, ?_⟩
    · rw [hsz2]
    · simp only
      omega
    · simp only
      have hd : (bytesOf S).drop S.size = [] := List.drop_of_length_le (by rw [bytesOf_len]; exact Nat.le_refl _)
      rw [← hsz2, hd, hb2, List.append_nil]
      rfl
  obtain ⟨r1, k1, hR⟩ := hR.split
  obtain ⟨r2, k2, hR⟩ := hR.split
  obtain ⟨r3, k3, k4⟩ := hR.split
  rw [two_fwd k1 h1]
  unfold decTexts
  simp only [Int.toNat_natCast]
  rw [texts_fwd ts [] r1 r2 h2 k2]
  simp only [List.nil_append]
  rw [two_fwd k3 h3]
  unfold decFuns
  simp only [Int.toNat_natCast]
  rw [funs_fwd fs [] r3 _ h4 k4]
  simp only [List.nil_append]
  unfold decEnd
  rw [if_neg (by simp)]
  rfl
theorem end_bwd {S : ByteArray} {r : Rs} (h : (decEnd S r).kind = 0) : r.kind = 0 ∧ S.size ≤ r.pos := by
  unfold decEnd at h
  split at h
  · exact absurd h (fail_ne (by decide))
  · rename_i hn
    refine ⟨h, ?_⟩
    rcases Nat.lt_or_ge r.pos S.size with hl | hl
    · exact absurd ⟨h, hl⟩ hn
    · exact hl
theorem funs_end {S : ByteArray} {ts : List ByteArray} {r : Rs} (h : (decFuns S ts (r.num S 2)).2.1 = 0) : ∃ fs, decFuns S ts (r.num S 2) = (⟨ts, fs⟩, 0, 0) ∧ isTwo (fs.length : Nat) = true ∧ fs.all Fn.ok = true ∧ ∃ r', Rd S r (big (fs.length : Nat) 2 ++ fs.flatMap Fn.bytes) r' ∧ S.size ≤ r'.pos := by
  have t := two_bwd S r
  have nb := num_bwd (S := S) (r := r) (n := 2)
  generalize r.num S 2 = N at *
  obtain ⟨m, r3⟩ := N
  unfold decFuns decAns at *
  simp only at *
  split at h
  · rename_i hk
    rw [if_pos hk]
    obtain ⟨e1, e3⟩ := end_bwd hk
    have f1 : r3.kind = 0 := by
      cases hn : m.toNat with
      | zero => rw [hn] at e1; exact e1
      | succ n =>
        rw [hn, funsR] at e1
        simp only at e1
        split at e1
        · assumption
        · assumption
    have k3 := nb f1
    have hp3 : r3.pos ≤ S.size := by have := k3.le; rw [k3.pos]; exact this
    obtain ⟨fs, b1, b2, b3, b4⟩ := funs_bwd m.toNat [] r3 hp3 e1
    have hm := (two_iff m).1 t
    have hm2 : ((fs.length : Nat) : Int) = m := by omega
    refine ⟨fs, by rw [b2]; rfl, by rw [hm2]; exact t, b3, _, ?_, e3⟩
    rw [hm2]
    exact k3.comp b4
  · rename_i hk
    exact absurd h hk
theorem texts_end {S : ByteArray} {r : Rs} (h : (decTexts S (r.num S 2)).2.1 = 0) : ∃ ts fs, decTexts S (r.num S 2) = (⟨ts, fs⟩, 0, 0) ∧ isTwo (ts.length : Nat) = true ∧ ts.all textOk = true ∧ isTwo (fs.length : Nat) = true ∧ fs.all Fn.ok = true ∧ ∃ r', Rd S r (big (ts.length : Nat) 2 ++ (ts.flatMap textB ++ (big (fs.length : Nat) 2 ++ fs.flatMap Fn.bytes))) r' ∧ S.size ≤ r'.pos := by
  have t := two_bwd S r
  have nb := num_bwd (S := S) (r := r) (n := 2)
  generalize r.num S 2 = N at *
  obtain ⟨m, r1⟩ := N
  unfold decTexts at *
  simp only at *
  obtain ⟨fs, a1, a2, a3, r', a4, a5⟩ := funs_end h
  have f2 := a4.ok
  have f1 : r1.kind = 0 := by
    cases hn : m.toNat with
    | zero => rw [hn] at f2; exact f2
    | succ n =>
      rw [hn, textsR] at f2
      simp only at f2
      split at f2
      · assumption
      · assumption
  have k1 := nb f1
  have hp1 : r1.pos ≤ S.size := by have := k1.le; rw [k1.pos]; exact this
  obtain ⟨ts, b1, b2, b3, b4⟩ := texts_bwd m.toNat [] r1 hp1 f2
  have hm := (two_iff m).1 t
  have hm2 : ((ts.length : Nat) : Int) = m := by omega
  refine ⟨ts, fs, by rw [a1, b2]; rfl, by rw [hm2]; exact t, b3, a2, a3, r', ?_, a5⟩
  rw [hm2]
  exact k1.comp (b4.comp a4)
/-- What is read is written as it was. -/
theorem enc_dec (S : ByteArray) (h : (decR S).2.1 = 0) : (decR S).1.ok = true ∧ (decR S).1.bytes = bytesOf S ∧ S.size ≤ 4000000 := by
  unfold decR at *
  split at h
  · cases h
  · rename_i hsz
    rw [if_neg hsz]
    unfold decHead at *
    obtain ⟨ts, fs, a1, a2, a3, a4, a5, r', a6, a7⟩ := texts_end h
    obtain ⟨g1, g2, g3⟩ := head_bwd a6.ok
    rw [a1]
    refine ⟨?_, ?_, by omega⟩
    · unfold Cd.ok
      simp only [a2, a3, a4, a5, Bool.and_self]
    · unfold Cd.bytes
      simp only
      have hi := a6.is
      have hps := a6.pos
      simp only at hi hps
      rw [g3, hi, List.drop_of_length_le (by rw [bytesOf_len]; omega), List.append_nil]
theorem enc_dec2 (S : ByteArray) (h : (decR S).2.1 = 0) : (decR S).1.enc = (bytesOf S, 0) := by
  obtain ⟨h1, h2, h3⟩ := enc_dec S h
  unfold Cd.enc
  rw [if_pos h1, h2, if_neg (by rw [bytesOf_len]; omega)]
end Go.Proofs.YtlekoldicnfeeaaDoor
