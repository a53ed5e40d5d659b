/-
  What is written is read as it was, and the other way round: instructions, texts, functions, codes.
-/
import Derived.Test.YtlekoldicnfeeaaDoorC18
namespace Go.Proofs.YtlekoldicnfeeaaDoor
open Go.RowKit Go.Deep
theorem st_two (x : In) (h : isOp x.op = true) : x.st 2 = (if argOk (form x.op) 0 x.a = true then ((big x.op 1 ++ argB (form x.op) 0 x.a) ++ argB (form x.op) 1 x.b, argOk (form x.op) 1 x.b) else (big x.op 1 ++ argB (form x.op) 0 x.a, false)) := by
  have h0 : x.st 0 = (big x.op 1, true) := by rw [In.st, h]
  have h1 : x.st 1 = (big x.op 1 ++ argB (form x.op) 0 x.a, argOk (form x.op) 0 x.a) := by
    rw [In.st, h0]
    rfl
  rw [In.st, h1]
  simp only [In.arg]
  split <;> simp_all
theorem In.ok_spec {x : In} (h : x.ok = true) : isOp x.op = true ∧ argOk (form x.op) 0 x.a = true ∧ argOk (form x.op) 1 x.b = true ∧ x.bytes = big x.op 1 ++ (argB (form x.op) 0 x.a ++ argB (form x.op) 1 x.b) := by
  have hop : isOp x.op = true := by
    cases hc : isOp x.op with
    | true => rfl
    | false =>
      unfold In.ok at h
      have h0 : (x.st 0).2 = false := by rw [In.st]; exact hc
      rw [← x.st_stop h0 (by omega), h0] at h
      cases h
  have h2 := st_two x hop
  unfold In.ok at h
  unfold In.bytes
  rw [h2] at h ⊢
  split at h
  · rename_i ha
    rw [if_pos ha]
    exact ⟨hop, ha, h, List.append_assoc _ _ _⟩
  · cases h
theorem In.ok_of {x : In} (hop : isOp x.op = true) (ha : argOk (form x.op) 0 x.a = true) (hb : argOk (form x.op) 1 x.b = true) : x.ok = true ∧ x.bytes = big x.op 1 ++ (argB (form x.op) 0 x.a ++ argB (form x.op) 1 x.b) := by
  have h2 := st_two x hop
  unfold In.ok In.bytes
  rw [h2, if_pos ha]
  exact ⟨hb, List.append_assoc _ _ _⟩
theorem op_range {v : Int} (h : isOp v = true) : 0 ≤ v ∧ v < 256 ^ 1 := by
  unfold isOp at h
  simp at h
  omega
theorem big_ok {a : Int} (h : (decide (-1000000000 ≤ a) && decide (a ≤ 1000000000)) = true) : -1000000000 ≤ a ∧ a ≤ 1000000000 := by simpa using h
theorem ins_fwd {S : ByteArray} {r r' : Rs} {x : In} (h : x.ok = true) (hr : Rd S r x.bytes r') : insR S r = (x, r') := by
  obtain ⟨op, a, b⟩ := x
  obtain ⟨h1, h2, h3, h4⟩ := In.ok_spec h
  simp only at h1 h2 h3 h4
  rw [h4] at hr
  obtain ⟨r1, k1, k2⟩ := hr.split
  have n1 := num_fwd k1 (op_range h1).1 (op_range h1).2
  unfold insR insStart
  rw [n1]
  simp only [h1, if_true]
  have e1 := k1.kind
  rcases form_cases op with hf | hf | hf | hf
  · rw [hf] at h2 h3 k2 ⊢
    simp [argOk] at h2 h3
    simp [argB] at k2
    subst h2 h3
    rw [k2.same]
    rfl
  · rw [hf] at h2 h3 k2 ⊢
    simp only [argOk, List.getElem?_cons_zero, if_true] at h2
    simp [argOk] at h3
    simp [argB] at k2
    subst h3
    obtain ⟨g1, g2⟩ := big_ok h2
    obtain ⟨u, m1, m2⟩ := four_fwd k2 g1 g2
    simp only [insLoop, argR, if_true, m1, m2]
    rw [if_pos e1, if_neg (by omega)]
    rfl
  · rw [hf] at h2 h3 k2 ⊢
    have h2' : isTwo a = true := by simpa [argOk] using h2
    simp [argOk] at h3
    simp [argB] at k2
    subst h3
    have m1 := two_fwd k2 h2'
    have ec : ((110 : UInt8) = 105) = False := by simp
    simp only [insLoop, argR, m1, ec, if_false]
    rw [if_pos e1]
    rfl
  · rw [hf] at h2 h3 k2 ⊢
    have h2' : isTwo a = true := by simpa [argOk] using h2
    have h3' : isTwo b = true := by simpa [argOk] using h3
    simp [argB] at k2
    obtain ⟨r2, k3, k4⟩ := k2.split
    have m1 := two_fwd k3 h2'
    have m2 := two_fwd k4 h3'
    have ec : ((110 : UInt8) = 105) = False := by simp
    simp only [insLoop, argR, m1, m2, ec, if_false]
    rw [if_pos e1, if_pos k3.kind]
    rfl
theorem ins_bwd {S : ByteArray} {r : Rs} (h : (insR S r).2.kind = 0) : (insR S r).1.ok = true ∧ Rd S r (insR S r).1.bytes (insR S r).2 := by
  unfold insR at *
  have hs : (insStart S r).2.kind = 0 := by
    cases hf : form (r.num S 1).1 with
    | nil => rw [hf] at h; exact h
    | cons c f =>
      rw [hf, insLoop] at h
      split at h
      · assumption
      · assumption
  have hop : isOp (r.num S 1).1 = true := by
    cases hc : isOp (r.num S 1).1 with
    | true => rfl
    | false =>
      unfold insStart at hs
      rw [hc] at hs
      exact absurd hs (fail_ne (by decide))
  have hst : insStart S r = (⟨(r.num S 1).1, 0, 0⟩, (r.num S 1).2) := by unfold insStart; rw [hop]; rfl
  rw [hst] at hs h ⊢
  have k1 := num_bwd hs
  generalize r.num S 1 = N at *
  obtain ⟨op, r1⟩ := N
  simp only at *
  rcases form_cases op with hf | hf | hf | hf
  · rw [hf] at h ⊢
    simp only [insLoop] at h ⊢
    obtain ⟨g1, g2⟩ := In.ok_of (x := ⟨op, 0, 0⟩) hop (by rw [hf]; rfl) (by rw [hf]; rfl)
    refine ⟨g1, ?_⟩
    rw [g2]
    simp [hf, argB]
    exact k1
  · rw [hf] at h ⊢
    simp only [insLoop, argR, if_true] at h ⊢
    rw [if_pos hs] at h ⊢
    simp only at h ⊢
    split at h
    · exact absurd h (fail_ne (by decide))
    · rename_i hb
      rw [if_neg hb]
      have k2 := four_bwd h
      obtain ⟨g1, g2⟩ := In.ok_of (x := ⟨op, signed (r1.num S 4).1, 0⟩) hop (by rw [hf]; simp [argOk]; omega) (by rw [hf]; rfl)
      refine ⟨g1, ?_⟩
      show Rd S r (In.bytes ⟨op, signed (r1.num S 4).1, 0⟩) _
      rw [g2]
      simp [hf, argB]
      exact k1.comp k2
  · rw [hf] at h ⊢
    have ec : ((110 : UInt8) = 105) = False := by simp
    simp only [insLoop, argR, ec, if_false] at h ⊢
    rw [if_pos hs] at h ⊢
    simp only at h ⊢
    have k2 := num_bwd h
    obtain ⟨g1, g2⟩ := In.ok_of (x := ⟨op, (r1.num S 2).1, 0⟩) hop (by rw [hf]; simp [argOk, two_bwd]) (by rw [hf]; rfl)
    refine ⟨g1, ?_⟩
    show Rd S r (In.bytes ⟨op, (r1.num S 2).1, 0⟩) _
    rw [g2]
    simp [hf, argB]
    exact k1.comp k2
  · rw [hf] at h ⊢
    have ec : ((110 : UInt8) = 105) = False := by simp
    simp only [insLoop, argR, ec, if_false] at h ⊢
    rw [if_pos hs] at h ⊢
    have h2 : (r1.num S 2).2.kind = 0 := by
      split at h
      · assumption
      · assumption
    rw [if_pos h2] at h ⊢
    simp only at h ⊢
    have k2 := num_bwd h2
    have k3 := num_bwd h
    obtain ⟨g1, g2⟩ := In.ok_of (x := ⟨op, (r1.num S 2).1, ((r1.num S 2).2.num S 2).1⟩) hop (by rw [hf]; simp [argOk, two_bwd]) (by rw [hf]; simp [argOk, two_bwd])
    refine ⟨g1, ?_⟩
    show Rd S r (In.bytes ⟨op, (r1.num S 2).1, ((r1.num S 2).2.num S 2).1⟩) _
    rw [g2]
    simp [hf, argB]
    exact k1.comp (k2.comp k3)
theorem insN_fwd {S : ByteArray} : ∀ (l : List In) (acc : List In) (r r' : Rs), l.all In.ok = true → Rd S r (l.flatMap In.bytes) r' → insN S l.length (acc, r) = (acc ++ l, r')
  | [], acc, r, r', _, h => by rw [h.same]; simp [insN]
  | x :: l, acc, r, r', ho, h => by
    rw [List.all_cons, Bool.and_eq_true] at ho
    rw [List.flatMap_cons] at h
    obtain ⟨r1, k1, k2⟩ := h.split
    have hi := ins_fwd ho.1 k1
    rw [List.length_cons, insN]
    simp only
    rw [if_pos h.ok, hi, insN_fwd l _ r1 r' ho.2 k2]
    simp
theorem insN_bwd {S : ByteArray} : ∀ (n : Nat) (acc : List In) (r : Rs), r.pos ≤ S.size → (insN S n (acc, r)).2.kind = 0 → ∃ l : List In, l.length = n ∧ (insN S n (acc, r)).1 = acc ++ l ∧ l.all In.ok = true ∧ Rd S r (l.flatMap In.bytes) (insN S n (acc, r)).2
  | 0, acc, r, hp, h => ⟨[], rfl, by simp [insN], rfl, Rd.nil h hp⟩
  | n + 1, acc, r, hp, h => by
    rw [insN] at h ⊢
    simp only at h ⊢
    by_cases hk : r.kind = 0
    · rw [if_pos hk] at h ⊢
      have hk1 : (insR S r).2.kind = 0 := by
        generalize insR S r = X at h
        obtain ⟨x, r1⟩ := X
        cases n with
        | zero => exact h
        | succ n =>
          rw [insN] at h
          simp only at h
          split at h
          · assumption
          · assumption
      obtain ⟨h1, h2⟩ := ins_bwd hk1
      have hp1 : (insR S r).2.pos ≤ S.size := by have := h2.le; rw [h2.pos]; exact this
      obtain ⟨l, k1, k2, k3, k4⟩ := insN_bwd n _ _ hp1 h
      refine ⟨(insR S r).1 :: l, by simp [k1], by rw [k2]; simp, by simp [h1, k3], ?_⟩
      rw [List.flatMap_cons]
      exact h2.comp k4
    · rw [if_neg hk] at h
      exact absurd h hk
theorem fun_fwd {S : ByteArray} {r r' : Rs} {f : Fn} (h : f.ok = true) (hr : Rd S r f.bytes r') : funR S r = (f, r') := by
  obtain ⟨free, slots, ins⟩ := f
  unfold Fn.ok at h
  simp only [Bool.and_eq_true] at h
  unfold Fn.bytes at hr
  obtain ⟨r1, k1, hr⟩ := hr.split
  obtain ⟨r2, k2, hr⟩ := hr.split
  obtain ⟨r3, k3, hr⟩ := hr.split
  have n1 := two_fwd k1 h.1
  have n2 := two_fwd k2 h.2.1
  have n3 := two_fwd k3 h.2.2.1
  unfold funR funTail
  rw [n1]
  simp only
  rw [n2]
  simp only
  rw [n3]
  simp only
  rw [Int.toNat_natCast, insN_fwd ins [] r3 r' h.2.2.2 hr]
  rfl
theorem fun_bwd {S : ByteArray} {r : Rs} (h : (funR S r).2.kind = 0) : (funR S r).1.ok = true ∧ Rd S r (funR S r).1.bytes (funR S r).2 := by
  unfold funR funTail at *
  have t1 := two_bwd S r
  have t2 := two_bwd S (r.num S 2).2
  have t3 := two_bwd S ((r.num S 2).2.num S 2).2
  have e1 : (((r.num S 2).2.num S 2).2.num S 2).2.kind = 0 := by
    simp only at h
    generalize ((r.num S 2).2.num S 2).2.num S 2 = N at h
    obtain ⟨k, r3⟩ := N
    simp only at h
    cases hn : k.toNat with
    | zero => rw [hn] at h; exact h
    | succ n =>
      rw [hn, insN] at h
      simp only at h
      split at h
      · assumption
      · assumption
  have k3 := num_bwd e1
  have k2 := num_bwd k3.ok
  have k1 := num_bwd k2.ok
  generalize r.num S 2 = A at *
  obtain ⟨fv, r1⟩ := A
  simp only at *
  generalize r1.num S 2 = B at *
  obtain ⟨sv, r2⟩ := B
  simp only at *
  generalize r2.num S 2 = C at *
  obtain ⟨kv, r3⟩ := C
  simp only at *
  have hp : r3.pos ≤ S.size := by have := k3.le; rw [k3.pos]; exact this
  obtain ⟨l, g1, g2, g3, g4⟩ := insN_bwd kv.toNat [] r3 hp h
  have hk := (two_iff kv).1 t3
  have hkv : ((l.length : Nat) : Int) = kv := by omega
  rw [g2]
  refine ⟨?_, ?_⟩
  · unfold Fn.ok
    simp only [List.nil_append, hkv, t1, t2, t3, g3, Bool.and_self]
  · unfold Fn.bytes
    simp only [List.nil_append, hkv]
    exact k1.comp (k2.comp (k3.comp g4))
theorem funs_fwd {S : ByteArray} : ∀ (l : List Fn) (acc : List Fn) (r r' : Rs), l.all Fn.ok = true → Rd S r (l.flatMap Fn.bytes) r' → funsR S l.length (acc, r) = (acc ++ l, r')
  | [], acc, r, r', _, h => by rw [h.same]; simp [funsR]
  | x :: l, acc, r, r', ho, h => by
    rw [List.all_cons, Bool.and_eq_true] at ho
    rw [List.flatMap_cons] at h
    obtain ⟨r1, k1, k2⟩ := h.split
    have hi := fun_fwd ho.1 k1
    rw [List.length_cons, funsR]
    simp only
    rw [if_pos h.ok, hi, funs_fwd l _ r1 r' ho.2 k2]
    simp
theorem funs_bwd {S : ByteArray} : ∀ (n : Nat) (acc : List Fn) (r : Rs), r.pos ≤ S.size → (funsR S n (acc, r)).2.kind = 0 → ∃ l : List Fn, l.length = n ∧ (funsR S n (acc, r)).1 = acc ++ l ∧ l.all Fn.ok = true ∧ Rd S r (l.flatMap Fn.bytes) (funsR S n (acc, r)).2
  | 0, acc, r, hp, h => ⟨[], rfl, by simp [funsR], rfl, Rd.nil h hp⟩
  | n + 1, acc, r, hp, h => by
    rw [funsR] at h ⊢
    simp only at h ⊢
    by_cases hk : r.kind = 0
    · rw [if_pos hk] at h ⊢
      have hk1 : (funR S r).2.kind = 0 := by
        generalize funR S r = X at h
        obtain ⟨x, r1⟩ := X
        cases n with
        | zero => exact h
        | succ n =>
          rw [funsR] at h
          simp only at h
          split at h
          · assumption
          · assumption
      obtain ⟨h1, h2⟩ := fun_bwd hk1
      have hp1 : (funR S r).2.pos ≤ S.size := by have := h2.le; rw [h2.pos]; exact this
      obtain ⟨l, k1, k2, k3, k4⟩ := funs_bwd n _ _ hp1 h
      refine ⟨(funR S r).1 :: l, by simp [k1], by rw [k2]; simp, by simp [h1, k3], ?_⟩
      rw [List.flatMap_cons]
      exact h2.comp k4
    · rw [if_neg hk] at h
      exact absurd h hk
end Go.Proofs.YtlekoldicnfeeaaDoor
