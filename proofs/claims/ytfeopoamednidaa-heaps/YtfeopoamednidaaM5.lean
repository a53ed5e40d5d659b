/-
  The law's own roots, one by one (World.roots).
-/
import Derived.Test.YtfeopoamednidaaRF
namespace Go.Proofs.Ytfeopoamednidaa
open Go.RowKit Go.Deep Go.Shelf Go.IntWalk
attribute [local go_sem] Oper.semAt_some
section
set_option maxHeartbeats 8000000
set_option maxRecDepth 100000
theorem iter10 (n : Nat) (hn : 1 ≤ n) (wb : Nat) (q : Option Addr) (N cap b o : Nat) (hq : 0 < N → q = some ⟨b, o, none⟩) (hN : N ≤ 9000000000000000000) (hcap : N ≤ cap) (l : Nat) (J : Nat → World → Prop) (W : World)
    (hJ : ∀ i W, J i W → W.cell? ⟨wb, 2, none⟩ = some (.slice q N cap) ∧ wb < W.heap.size)
    (hY : ∀ i W, i < N → J i W → YieldAt Fence.wide (n - 1) Try.prog l #[.pointer (some ⟨b, o + i * 2, none⟩)] W fun e W' => e = .returned (.bool true) ∧ J (i + 1) W') (h0 : J 0 W) :
    CallsIn Fence.wide n Try.prog 10 #[.pointer (some ⟨wb, 0, none⟩), .func (.yield l) #[] #[]] W fun e W' => (∃ v, e = .returned v) ∧ J N W' := by
  refine callsIn_of_wp Try.func10 rfl trivial ?_ rfl
  simp only [Try.ntmps10, List.size_toArray, List.length_cons, List.length_nil, Nat.reduceAdd, Nat.reduceSub, Array.replicate_succ, Array.replicate_zero, List.push_toArray, List.append_toArray, List.nil_append, List.cons_append]
  gi_wp2
  gi_loopw [4] (fun iv wr => ∃ (i : Nat), i ≤ N ∧ iv = .int .i64 (i : Nat) ∧ Hid (J i wr)) (fun i _ => N - (intOf i).toNat)
  case atStart => exact ⟨0, Nat.zero_le _, rfl, h0⟩
  case round =>
    obtain ⟨i, hi, rfl, HL⟩ := hrel
    obtain ⟨c2, hwl⟩ := hJ i wr HL.out
    by_cases hiN : i < N
    · have e := hq (by omega)
      subst e
      obtain ⟨fn, tmps, assign, body, hy, hR⟩ := hY i wr hiN HL.out
      have h1 : (i : Int) < (N : Int) := by omega
      have h2 : wrap64 ((i : Int) + 1) = (i : Int) + 1 := wrap64_in _ (by omega)
      clear hY hJ hq HL
      gi_wp2
      refine hR.mono ?_
      rintro e W3 ⟨rfl, hJ3⟩
      have HJ3 : Hid (J (i + 1) W3) := hJ3
      clear hJ3 c2 hwl hR hy
      gi_wp2
      go_roundw
      case rel => exact ⟨i + 1, by omega, by first | rfl | (congr 1; omega) | go_num, HJ3.out⟩
      case measure => simp [intOf]; omega
    · have e : i = N := by omega
      subst e
      have h1 : ¬ ((i : Int) < (i : Int)) := by omega
      clear hY hJ hq
      gi_wp2
      go_end0
      exact ⟨⟨_, rfl⟩, HL.out⟩
end
end Go.Proofs.Ytfeopoamednidaa
