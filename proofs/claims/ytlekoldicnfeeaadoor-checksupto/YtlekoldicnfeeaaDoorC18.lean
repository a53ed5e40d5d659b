/-
  What is written is read as it was, and the other way round: in plain words.
-/
import Derived.Test.YtlekoldicnfeeaaDoorC15
namespace Go.Proofs.YtlekoldicnfeeaaDoor
open Go.RowKit Go.Deep
/-- The bytes of a text. -/
def bytesOf (S : ByteArray) : List UInt8 := S.data.toList
theorem bytesOf_len (S : ByteArray) : (bytesOf S).length = S.size := Array.length_toList
/-- The reader goes over these bytes. -/
structure Rd (S : ByteArray) (r : Rs) (B : List UInt8) (r' : Rs) : Prop where
  ok : r.kind = 0
  ends : r' = ⟨r.pos + B.length, 0, r.fat⟩
  le : r.pos + B.length ≤ S.size
  is : (bytesOf S).drop r.pos = B ++ (bytesOf S).drop (r.pos + B.length)
theorem Rd.split {S : ByteArray} {r r'' : Rs} {B C : List UInt8} (h : Rd S r (B ++ C) r'') : ∃ r', Rd S r B r' ∧ Rd S r' C r'' := by
  obtain ⟨h1, h2, h3, h4⟩ := h
  simp only [List.length_append] at h2 h3 h4
  have h5 : (bytesOf S).drop (r.pos + B.length) = C ++ (bytesOf S).drop (r.pos + (B.length + C.length)) := by
    have := congrArg (List.drop B.length) h4
    rw [List.drop_drop, List.append_assoc, List.drop_left] at this
    exact this
  refine ⟨⟨r.pos + B.length, 0, r.fat⟩, ⟨h1, rfl, by omega, ?_⟩, ⟨rfl, ?_, ?_, ?_⟩⟩
  · rw [h5, ← List.append_assoc]
    exact h4
  · rw [h2]
    simp [Nat.add_assoc]
  · simp only
    omega
  · simp only
    rw [h5, Nat.add_assoc]
theorem Rd.comp {S : ByteArray} {r r' r'' : Rs} {B C : List UInt8} (h : Rd S r B r') (k : Rd S r' C r'') : Rd S r (B ++ C) r'' := by
  obtain ⟨h1, h2, h3, h4⟩ := h
  obtain ⟨k1, k2, k3, k4⟩ := k
  subst h2
  simp only at k2 k3 k4
  refine ⟨h1, ?_, ?_, ?_⟩
  · rw [k2]
    simp [Nat.add_assoc]
  · simp only [List.length_append]
    omega
  · rw [h4, k4, List.append_assoc, List.length_append, Nat.add_assoc]
theorem Rd.nil {S : ByteArray} {r : Rs} (h : r.kind = 0) (hp : r.pos ≤ S.size) : Rd S r [] r := by
  obtain ⟨a, b, c⟩ := r
  simp only at h hp
  subst h
  exact ⟨rfl, rfl, hp, by simp⟩
theorem Rd.same {S : ByteArray} {r r' : Rs} (h : Rd S r [] r') : r' = r := by
  obtain ⟨a, b, c⟩ := r
  have h1 := h.ok
  simp only at h1
  subst h1
  exact h.ends
theorem Rd.kind {S : ByteArray} {r r' : Rs} {B : List UInt8} (h : Rd S r B r') : r'.kind = 0 := by rw [h.ends]
theorem Rd.pos {S : ByteArray} {r r' : Rs} {B : List UInt8} (h : Rd S r B r') : r'.pos = r.pos + B.length := by rw [h.ends]
theorem bigR_app : ∀ (k : Nat) (v : Int) (s : List UInt8), bigR k v s = big v k ++ s
  | 0, v, s => rfl
  | k + 1, v, s => by
    rw [big, bigR, bigR, bigR_app k, bigR_app k (v / 256) [_], List.append_assoc]
    rfl
theorem big_succ (k : Nat) (v : Int) : big v (k + 1) = big (v / 256) k ++ [UInt8.ofNat (v % 256).toNat] := by
  rw [big, bigR, bigR_app]
theorem big_mod : ∀ (n : Nat) (v k : Int), big (v + 256 ^ n * k) n = big v n
  | 0, _, _ => rfl
  | n + 1, v, k => by
    rw [big_succ, big_succ]
    have e : v + 256 ^ (n + 1) * k = v + 256 * (256 ^ n * k) := by rw [Int.pow_succ, Int.mul_comm (256 ^ n) 256, Int.mul_assoc]
    rw [e]
    generalize hq : (256 : Int) ^ n * k = q
    have e1 : (v + 256 * q) / 256 = v / 256 + 256 ^ n * k := by rw [hq]; omega
    have e2 : (v + 256 * q) % 256 = v % 256 := by omega
    rw [e1, e2, big_mod n]
theorem byteAt_drop (S : ByteArray) (p n : Nat) (B : List UInt8) (c : UInt8) (R : List UInt8) (h : (bytesOf S).drop p = B ++ c :: R) (hn : B.length = n) : byteAt S (p + n) = c := by
  have h1 : (bytesOf S)[p + n]? = some c := by
    rw [← List.getElem?_drop, h, List.getElem?_append_right (by omega)]
    simp [hn]
  unfold byteAt
  unfold bytesOf at h1
  rw [h1]
  rfl
theorem numAt_of : ∀ (n : Nat) (S : ByteArray) (p : Nat) (v : Int) (R : List UInt8), 0 ≤ v → v < 256 ^ n → (bytesOf S).drop p = big v n ++ R → numAt S p n = v
  | 0, _, _, v, _, h0, h1, _ => by
    have : v < 1 := by simpa using h1
    unfold numAt
    omega
  | n + 1, S, p, v, R, h0, h1, h => by
    rw [big_succ, List.append_assoc] at h
    have h2 : v / 256 < 256 ^ n := by
      rw [Int.pow_succ] at h1
      exact Int.ediv_lt_of_lt_mul (by omega) h1
    have ih := numAt_of n S p (v / 256) _ (by omega) h2 h
    have hb := byteAt_drop S p n _ _ _ h (big_len _ _)
    have hm : 0 ≤ v % 256 ∧ v % 256 < 256 := by omega
    rw [numAt, ih, hb]
    have : (UInt8.ofNat (v % 256).toNat).toNat = (v % 256).toNat := by
      rw [UInt8.toNat_ofNat']
      omega
    rw [this]
    omega
theorem drop_num : ∀ (n : Nat) (S : ByteArray) (p : Nat), p + n ≤ S.size → (bytesOf S).drop p = big (numAt S p n) n ++ (bytesOf S).drop (p + n)
  | 0, _, _, _ => rfl
  | n + 1, S, p, h => by
    have ih := drop_num n S p (by omega)
    have hl : p + n < (bytesOf S).length := by rw [bytesOf_len]; omega
    rw [ih, List.drop_eq_getElem_cons hl]
    have hb : byteAt S (p + n) = (bytesOf S)[p + n]'hl := by
      unfold byteAt
      unfold bytesOf at hl ⊢
      rw [List.getElem?_eq_getElem hl]
      rfl
    rw [big_succ, numAt, ← hb]
    have h2 := (byteAt S (p + n)).toNat_lt
    have e1 : (256 * numAt S p n + ((byteAt S (p + n)).toNat : Int)) / 256 = numAt S p n := by omega
    have e2 : ((256 * numAt S p n + ((byteAt S (p + n)).toNat : Int)) % 256).toNat = (byteAt S (p + n)).toNat := by omega
    rw [e1, e2, List.append_assoc]
    simp [Nat.add_assoc]
/-- A number is read as it was written. -/
theorem num_fwd {S : ByteArray} {r r' : Rs} {n : Nat} {v : Int} (h : Rd S r (big v n) r') (h0 : 0 ≤ v) (h1 : v < 256 ^ n) : r.num S n = (v, r') := by
  obtain ⟨k1, k2, k3, k4⟩ := h
  rw [big_len] at k2 k3
  unfold Rs.num
  rw [if_pos k1, if_neg (by omega), numAt_of n S r.pos v _ h0 h1 k4, k2]
theorem num_bwd {S : ByteArray} {r : Rs} {n : Nat} (h : (r.num S n).2.kind = 0) : Rd S r (big (r.num S n).1 n) (r.num S n).2 := by
  unfold Rs.num at *
  by_cases hk : r.kind = 0
  · rw [if_pos hk] at *
    by_cases hl : (S.size : Int) - r.pos < n
    · rw [if_pos hl] at h
      cases h
    · rw [if_neg hl]
      refine ⟨hk, ?_, ?_, ?_⟩
      · rw [big_len]
      · rw [big_len]
        omega
      · rw [big_len]
        exact drop_num n S r.pos (by omega)
  · rw [if_neg hk] at h
    exact absurd h hk
theorem two_iff (v : Int) : isTwo v = true ↔ 0 ≤ v ∧ v < 256 ^ 2 := by
  unfold isTwo
  simp
  omega
theorem two_fwd {S : ByteArray} {r r' : Rs} {v : Int} (h : Rd S r (big v 2) r') (h0 : isTwo v = true) : r.num S 2 = (v, r') := num_fwd h ((two_iff v).1 h0).1 ((two_iff v).1 h0).2
theorem two_bwd (S : ByteArray) (r : Rs) : isTwo (r.num S 2).1 = true := (two_iff _).2 (r.num_range S 2)
theorem four_fwd {S : ByteArray} {r r' : Rs} {a : Int} (h : Rd S r (big a 4) r') (h0 : -1000000000 ≤ a) (h1 : a ≤ 1000000000) : ∃ u, r.num S 4 = (u, r') ∧ signed u = a := by
  by_cases hn : 0 ≤ a
  · refine ⟨a, num_fwd h hn (by omega), ?_⟩
    unfold signed
    rw [if_neg (by omega)]
  · refine ⟨a + 4294967296, num_fwd ?_ (by omega) (by omega), ?_⟩
    · have := big_mod 4 a 1
      rw [show a + 256 ^ 4 * 1 = a + 4294967296 by omega] at this
      rw [this]
      exact h
    · unfold signed
      rw [if_pos (by omega)]
      omega
theorem four_bwd {S : ByteArray} {r : Rs} (h : (r.num S 4).2.kind = 0) : Rd S r (big (signed (r.num S 4).1) 4) (r.num S 4).2 := by
  have hb := num_bwd h
  have hr := r.num_range S 4
  unfold signed
  split
  · have := big_mod 4 ((r.num S 4).1 - 4294967296) 1
    rw [show (r.num S 4).1 - 4294967296 + 256 ^ 4 * 1 = (r.num S 4).1 by omega] at this
    rw [← this]
    exact hb
  · exact hb
theorem fail_ne {r : Rs} {k pl : Int} (hk : k ≠ 0) : (r.fail k pl).kind ≠ 0 := by
  unfold Rs.fail
  split
  · exact hk
  · assumption
end Go.Proofs.YtlekoldicnfeeaaDoor
