/-
  Are two types the same on top (sameTop).
-/
import Derived.Test.YtbgpjaniohpfaaaK9
import Derived.Test.YtbgpjaniohpfaaaP2
namespace Go.Proofs.Ytbgpjaniohpfaaa
open Go.RowKit Go.Deep
set_option maxHeartbeats 2000000 in
set_option maxRecDepth 100000 in
theorem sameTop_any (w : World) (k n : Int) (s : ByteArray) (e : Int) (l : List Ty) (p : Option Addr) (cap : Nat) (k' n' : Int) (s' : ByteArray) (e' : Int) (l' : List Ty) (p' : Option Addr) (cap' : Nat) :
    Calls Try.prog 41 #[.agg #[.int .i64 k, .int .i64 n, .string s, .int .i64 e, .slice p l.length cap], .agg #[.int .i64 k', .int .i64 n', .string s', .int .i64 e', .slice p' l'.length cap']] w fun r w' =>
      r = .returned (.bool ((Ty.mk k n s e l).top (.mk k' n' s' e' l'))) ∧ Below w.heap.size w w' := by
  generalize hR : (Ty.mk k n s e l).top (.mk k' n' s' e' l') = R
  have HR : Hid ((k == k' && s.data.toList == s'.data.toList && n == n' && l.length == l'.length) = R) := hR
  clear hR
  by_cases hk : k = k'
  · have b1 : (k == k') = true := by simp [hk]
    by_cases hs : s.data.toList = s'.data.toList
    · have b2 : (s.toList == s'.toList) = true := by rw [Lib.toList_data, Lib.toList_data, beq_iff_eq]; exact hs
      by_cases hn : n = n'
      · have b3 : (n == n') = true := by simp [hn]
        by_cases hlen : l.length = l'.length
        · have b4 : ((l.length : Int) == (l'.length : Int)) = true := by simp [hlen]
          have HR' : Hid (R = true) := by
            unfold Hid
            rw [← HR.out]
            simp [hk, hs, hn, hlen]
          clear HR hk hs hn hlen
          go_enter Try.func41, Try.ntmps41
          go_wp2
          go_ret
          exact ⟨ret_bool HR'.out.symm, ((Below.refl w.heap.size w).alloc (Nat.le_refl _) _).alloc (by simp) _⟩
        · have b4 : ((l.length : Int) == (l'.length : Int)) = false := by rw [beq_eq_false_iff_ne]; omega
          have HR' : Hid (R = false) := by
            unfold Hid
            rw [← HR.out]
            simp [hlen]
          clear HR hk hs hn hlen
          go_enter Try.func41, Try.ntmps41
          go_wp2
          go_ret
          exact ⟨ret_bool HR'.out.symm, ((Below.refl w.heap.size w).alloc (Nat.le_refl _) _).alloc (by simp) _⟩
      · have b3 : (n == n') = false := by rw [beq_eq_false_iff_ne]; exact hn
        have HR' : Hid (R = false) := by
          unfold Hid
          rw [← HR.out]
          simp [hn]
        clear HR hk hs hn
        go_enter Try.func41, Try.ntmps41
        go_wp2
        go_ret
        exact ⟨ret_bool HR'.out.symm, ((Below.refl w.heap.size w).alloc (Nat.le_refl _) _).alloc (by simp) _⟩
    · have b2 : (s.toList == s'.toList) = false := by rw [Lib.toList_data, Lib.toList_data, beq_eq_false_iff_ne]; exact hs
      have HR' : Hid (R = false) := by
        unfold Hid
        rw [← HR.out]
        simp [show ¬ s.data = s'.data from fun q => hs (by rw [q])]
      clear HR hk hs
      go_enter Try.func41, Try.ntmps41
      go_wp2
      go_ret
      exact ⟨ret_bool HR'.out.symm, ((Below.refl w.heap.size w).alloc (Nat.le_refl _) _).alloc (by simp) _⟩
  · have b1 : (k == k') = false := by rw [beq_eq_false_iff_ne]; exact hk
    have HR' : Hid (R = false) := by
      unfold Hid
      rw [← HR.out]
      simp [hk]
    clear HR hk
    go_enter Try.func41, Try.ntmps41
    go_wp2
    go_ret
    exact ⟨ret_bool HR'.out.symm, ((Below.refl w.heap.size w).alloc (Nat.le_refl _) _).alloc (by simp) _⟩
end Go.Proofs.Ytbgpjaniohpfaaa
