/-
  The program's reader of bytes: a number of some bytes (natural), of two (two).
-/
import Derived.Test.YtimdjcffmajmnaaDoorD2
namespace Go.Proofs.YtimdjcffmajmnaaDoor
open Go.RowKit Go.Deep
theorem or_step (V : Int) (b : Nat) (h1 : 0 ≤ V) (h2 : V < 16777216) (hb : b < 256) : bits BinOp.or IntKind.i64 (wrap64 (V * 256)) (wrap64 (b : Int)) = 256 * V + b := by
  obtain ⟨v, rfl⟩ : ∃ v : Nat, V = (v : Int) := ⟨V.toNat, by omega⟩
  rw [IntWalk.wrap64_in ((v : Int) * 256) (by omega), IntWalk.wrap64_in (b : Int) (by omega)]
  unfold bits
  have e1 : BitVec.ofInt IntKind.i64.bits ((v : Int) * 256) = BitVec.ofNat 64 (v * 256) := by
    have : ((v : Int) * 256) = ((v * 256 : Nat) : Int) := by omega
    rw [this]
    exact BitVec.ofInt_natCast ..
  have e2 : BitVec.ofInt IntKind.i64.bits (b : Int) = BitVec.ofNat 64 b := BitVec.ofInt_natCast ..
  rw [e1, e2]
  show IntKind.i64.wrap ((BitVec.ofNat 64 (v * 256) ||| BitVec.ofNat 64 b).toNat : Int) = _
  rw [BitVec.toNat_or, BitVec.toNat_ofNat, BitVec.toNat_ofNat, Nat.mod_eq_of_lt (by omega), Nat.mod_eq_of_lt (by omega)]
  have e3 : v * 256 ||| b = v * 256 + b := by
    have := Nat.shiftLeft_add_eq_or_of_lt (b := b) (i := 8) (by omega) v
    rw [Nat.shiftLeft_eq] at this
    simpa using this.symm
  rw [e3, IntWalk.i64_in _ (by omega)]
  omega
theorem ext_byte (S : ByteArray) (pos n i : Nat) (hi : i < (S.extract pos (pos + n)).size) (hn : pos + n ≤ S.size) : ((S.extract pos (pos + n))[i]'hi) = byteAt S (pos + i) := by
  have h1 : i < n := by simp [ByteArray.size_extract] at hi; omega
  have h2 : pos + i < S.size := by omega
  rw [byteAt_eq S (pos + i) (pos + i) h2 rfl]
  exact ByteArray.getElem_extract ..
section
set_option maxHeartbeats 8000000
set_option maxRecDepth 100000
theorem natural_ok (w : World) (rp : Nat) (S : ByteArray) (pos n : Nat) (h : PBox w rp S pos) (hS : S.size ≤ 4000000) (hn : n ≤ 4) (hgt : pos + n ≤ S.size) : Calls Tryd.prog 58 #[.pointer (some ⟨rp, 0, none⟩), .int .i64 n] w fun e w' => e = .returned (.tuple #[.int .i64 (numAt S pos n), .nilIface]) ∧ PBox w' rp S ((pos : Int) + n) ∧ Kp [rp] w w' := by
  have Ht : Hid _ := take_ok w rp S pos n h hS hgt
  clear h
  have hsz : (S.extract pos (pos + n)).size = n := by simp [ByteArray.size_extract]; omega
  go_enter Tryd.func58, Tryd.ntmps58
  go_wp2_with fail
  refine Calls.mono Ht.out ?_
  rintro e1 w1 ⟨rfl, hq⟩
  have Hq : Hid _ := hq
  clear hq Ht
  obtain ⟨T, hT⟩ : ∃ T, T = S.extract pos (pos + n) := ⟨_, rfl⟩
  rw [← hT] at hsz ⊢
  have HT : Hid (T = S.extract pos (pos + n)) := hT
  clear hT
  go_wp2_with fail
  go_loopg [8, 18] n (fun g vv iv wr => ∃ i : Nat, vv = .int .i64 (numAt S pos i) ∧ iv = .int .i64 i ∧ i ≤ n ∧ g = n - i ∧ wr = w1)
  case atStart => exact ⟨0, rfl, rfl, by omega, by omega, rfl⟩
  case round =>
    obtain ⟨i, rfl, rfl, hi1, rfl, hw⟩ := hrel
    have hw := hw.symm
    subst hw
    have hns := numAt_pos S pos i
    by_cases hi : i < n
    · have hi' : (i : Int) < T.size := by omega
      have hit : i < T.size := by omega
      have hix : 0 ≤ (i : Int) ∧ (i : Int) < T.size := by omega
      generalize hV : numAt S pos i = V at *
      have HV : Hid _ := hV
      clear hV
      have hT2 : ∀ h : i < T.size, (T[i]'h) = byteAt S (pos + i) := fun h => by
        have e := HT.out
        subst e
        exact ext_byte S pos n i h hgt
      have hor := or_step V (T[i]'hit).toNat hns.1 (by
        have h3 : i = 0 ∨ i = 1 ∨ i = 2 ∨ i = 3 := by omega
        have h4 := hns.2
        rcases h3 with rfl | rfl | rfl | rfl <;> omega) (UInt8.toNat_lt _)
      have Q : Hid (256 * V + ((T[i]'hit).toNat : Int) = numAt S pos (i + 1)) := by
        unfold Hid
        rw [numAt, HV.out, hT2]
      clear hT2 hns
      have Hor : Hid _ := hor
      clear hor
      go_wp2
      go_roundg (n - (i + 1))
      case measure => omega
      case rel => exact ⟨i + 1, by rw [← Q.out]; exact congrArg _ Hor.out, by first | rfl | (congr 1; omega) | go_num, by omega, rfl, rfl⟩
    · have hi' : ¬ (i : Int) < T.size := by omega
      obtain rfl : i = n := by omega
      go_wp2
      exact bodyPost_ret (v := .tuple #[.int .i64 (numAt S pos i), .nilIface]) (by simp [results, Tryd.results58, go_sem]) rfl ⟨rfl, Hq.out⟩
theorem natural_short (w : World) (rp : Nat) (S : ByteArray) (pos n : Nat) (h : PBox w rp S pos) (hS : S.size ≤ 4000000) (hp : pos ≤ 4000000) (hgt : (S.size : Int) - pos < n) : Calls Tryd.prog 58 #[.pointer (some ⟨rp, 0, none⟩), .int .i64 n] w fun e w' => e = .returned (.tuple #[.int .i64 0, .iface 63 (.agg #[.int .i64 16, .int .i64 S.size])]) ∧ PBox w' rp S pos ∧ Kp [rp] w w' := by
  have Ht : Hid _ := take_short w rp S pos n h hS hp hgt
  clear h
  go_enter Tryd.func58, Tryd.ntmps58
  go_wp2_with fail
  refine Calls.mono Ht.out ?_
  rintro e1 w1 ⟨rfl, hq⟩
  have Hq : Hid _ := hq
  clear hq Ht
  go_wp2_with fail
  go_loopg [8, 18] 0 (fun g vv iv wr => vv = .int .i64 0 ∧ iv = .int .i64 0 ∧ wr = w1 ∧ g = 0)
  case atStart => exact ⟨rfl, rfl, rfl, rfl⟩
  case round =>
    obtain ⟨rfl, rfl, hw, rfl⟩ := hrel
    have hw := hw.symm
    subst hw
    go_wp2
    exact bodyPost_ret (v := .tuple #[.int .i64 0, .iface 63 (.agg #[.int .i64 16, .int .i64 S.size])]) (by simp [results, Tryd.results58, go_sem]) rfl ⟨rfl, Hq.out⟩
/-- A number of n bytes, or the fault: as the document's reader has it. -/
def num0 (S : ByteArray) (n pos : Nat) : Int × Rs := Rs.num S n ⟨pos, 0, 0⟩
theorem num0_short {S : ByteArray} {n pos : Nat} (h : (S.size : Int) - pos < n) : num0 S n pos = (0, ⟨pos, 16, S.size⟩) := by
  unfold num0 Rs.num
  simp [h]
theorem num0_ok {S : ByteArray} {n pos : Nat} (h : ¬ (S.size : Int) - pos < n) : num0 S n pos = (numAt S pos n, ⟨pos + n, 0, 0⟩) := by
  unfold num0 Rs.num
  simp [h]
theorem natural_any (w : World) (rp : Nat) (S : ByteArray) (pos n : Nat) (h : PBox w rp S pos) (hS : S.size ≤ 4000000) (hp : pos ≤ 4000000) (hn : n ≤ 4) : Calls Tryd.prog 58 #[.pointer (some ⟨rp, 0, none⟩), .int .i64 n] w fun e w' => e = .returned (.tuple #[.int .i64 (num0 S n pos).1, evR (num0 S n pos).2.kind (num0 S n pos).2.fat]) ∧ PBox w' rp S (num0 S n pos).2.pos ∧ Kp [rp] w w' := by
  by_cases hgt : (S.size : Int) - pos < n
  · rw [num0_short hgt]
    exact natural_short w rp S pos n h hS hp hgt
  · rw [num0_ok hgt]
    exact natural_ok w rp S pos n h hS hn (by omega)
theorem two_read (w : World) (rp : Nat) (S : ByteArray) (pos : Nat) (h : PBox w rp S pos) (hS : S.size ≤ 4000000) (hp : pos ≤ 4000000) : Calls Tryd.prog 57 #[.pointer (some ⟨rp, 0, none⟩)] w fun e w' => e = .returned (.tuple #[.int .i64 (num0 S 2 pos).1, evR (num0 S 2 pos).2.kind (num0 S 2 pos).2.fat]) ∧ PBox w' rp S (num0 S 2 pos).2.pos ∧ Kp [rp] w w' := by
  have Hc : Hid _ := natural_any w rp S pos 2 h hS hp (by omega)
  clear h
  generalize num0 S 2 pos = r at *
  generalize evR r.2.kind r.2.fat = ev at *
  go_enter Tryd.func57, Tryd.ntmps57
  go_wp2_with fail
  refine Calls.mono Hc.out ?_
  rintro e1 w1 ⟨rfl, hq⟩
  have Hq : Hid _ := hq
  clear hq Hc
  go_wp2
  exact bodyPost_ret (v := .tuple #[.int .i64 r.1, ev]) (by simp [results, Tryd.results57, go_sem]) rfl ⟨rfl, Hq.out⟩
end
end Go.Proofs.YtimdjcffmajmnaaDoor
