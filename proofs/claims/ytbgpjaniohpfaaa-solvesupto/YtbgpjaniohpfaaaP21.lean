/-
  The law's example: 'a -> int against bool -> 'b, in new memory.
-/
import Derived.Test.YtbgpjaniohpfaaaP1
namespace Go.Proofs.Ytbgpjaniohpfaaa
open Go.RowKit
open Go.Proofs.Ytbgpjaniohpfaaa
def exA : Ty := .mk 3 0 { data := #[] } 0 [.mk 0 1 { data := #[] } 0 [], .mk 1 0 { data := #[105, 110, 116] } 2 []]
def exB : Ty := .mk 3 0 { data := #[] } 0 [.mk 1 0 { data := #[98, 111, 111, 108] } 2 [], .mk 0 2 { data := #[] } 0 []]
theorem leafIn (w : World) (k n : Int) (s : ByteArray) (e : Int) (h : (Lit.int .i64 k).wf = true ∧ (Lit.int .i64 n).wf = true ∧ (Lit.int .i64 e).wf = true ∧ s.size ≤ maxLen) :
    TyIn w [.int .i64 k, .int .i64 n, .string s, .int .i64 e, .slice none 0 0] (.mk k n s e []) :=
  TyIn.mk k n s e [] none 0 0 0 (fun _ => []) (fun h => absurd rfl h) ⟨h.1, h.2.1, h.2.2.1, h.2.2.2, Nat.zero_le _, Nat.zero_le _⟩ (fun _ hi => absurd hi (Nat.not_lt_zero _)) (fun _ hi => absurd hi (Nat.not_lt_zero _))
theorem twoIn (w : World) (g : Nat) (k0 n0 : Int) (s0 : ByteArray) (e0 : Int) (k1 n1 : Int) (s1 : ByteArray) (e1 : Int) (h0 : TyIn w [.int .i64 k0, .int .i64 n0, .string s0, .int .i64 e0, .slice none 0 0] (.mk k0 n0 s0 e0 [])) (h1 : TyIn w [.int .i64 k1, .int .i64 n1, .string s1, .int .i64 e1, .slice none 0 0] (.mk k1 n1 s1 e1 []))
    (hc : ∀ j, j < 10 → w.cell? ⟨g, j, none⟩ = [Value.int .i64 k0, .int .i64 n0, .string s0, .int .i64 e0, .slice none 0 0, .int .i64 k1, .int .i64 n1, .string s1, .int .i64 e1, .slice none 0 0][j]?) :
    TyIn w [.int .i64 3, .int .i64 0, .string { data := #[] }, .int .i64 0, .slice (some ⟨g, 0, none⟩) 2 2] (.mk 3 0 { data := #[] } 0 [.mk k0 n0 s0 e0 [], .mk k1 n1 s1 e1 []]) := by
  refine TyIn.mk 3 0 { data := #[] } 0 [.mk k0 n0 s0 e0 [], .mk k1 n1 s1 e1 []] (some ⟨g, 0, none⟩) 2 g 0 (fun i => if i = 0 then [.int .i64 k0, .int .i64 n0, .string s0, .int .i64 e0, .slice none 0 0] else [.int .i64 k1, .int .i64 n1, .string s1, .int .i64 e1, .slice none 0 0]) (fun _ => rfl) ⟨by decide, by decide, by decide, by decide, by simp [maxLen], by simp⟩ ?_ ?_
  · intro i hi j hj
    have hi2 : i < 2 := by simpa using hi
    rw [Nat.zero_add, hc (i * 5 + j) (by omega)]
    match i, hi2, j, hj with
    | 0, _, 0, _ => rfl
    | 0, _, 1, _ => rfl
    | 0, _, 2, _ => rfl
    | 0, _, 3, _ => rfl
    | 0, _, 4, _ => rfl
    | 1, _, 0, _ => rfl
    | 1, _, 1, _ => rfl
    | 1, _, 2, _ => rfl
    | 1, _, 3, _ => rfl
    | 1, _, 4, _ => rfl
  · intro i hi
    have hi2 : i < 2 := by simpa using hi
    match i, hi2 with
    | 0, _ => exact h0
    | 1, _ => exact h1
section
set_option maxHeartbeats 1000000
set_option maxRecDepth 100000
theorem example_any (w : World) : Calls Try.prog 6 #[] w fun e w' => ∃ g ga gb, e = .returned (.slice (some ⟨g, 0, none⟩) 1 1) ∧ Below w.heap.size w w' ∧ g < w'.heap.size ∧ w.heap.size ≤ g ∧
    (∀ j, j < 10 → w'.cell? ⟨g, j, none⟩ = [Value.int .i64 3, .int .i64 0, .string { data := #[] }, .int .i64 0, .slice (some ⟨ga, 0, none⟩) 2 2, .int .i64 3, .int .i64 0, .string { data := #[] }, .int .i64 0, .slice (some ⟨gb, 0, none⟩) 2 2][j]?) ∧
    TyIn w' [.int .i64 3, .int .i64 0, .string { data := #[] }, .int .i64 0, .slice (some ⟨ga, 0, none⟩) 2 2] exA ∧ TyIn w' [.int .i64 3, .int .i64 0, .string { data := #[] }, .int .i64 0, .slice (some ⟨gb, 0, none⟩) 2 2] exB := by
  go_enter Try.func6, Try.ntmps6
  go_wp2
  go_ret
  refine ⟨_, w.heap.size + 4, w.heap.size + 5, rfl, ?_, ?_, ?_, ?_, ?_, ?_⟩
  · exact (((((((Below.refl w.heap.size w).alloc (Nat.le_refl _) _).alloc (by simp) _).alloc (by simp; omega) _).alloc (by simp; omega) _).alloc (by simp; omega) _).alloc (by simp; omega) _).alloc (by simp; omega) _
  · simp
  · omega
  · intro j hj
    match j, hj with
    | 0, _ => simp [go_sem]
    | 1, _ => simp [go_sem]
    | 2, _ => simp [go_sem]
    | 3, _ => simp [go_sem]
    | 4, _ => simp [go_sem]
    | 5, _ => simp [go_sem]
    | 6, _ => simp [go_sem]
    | 7, _ => simp [go_sem]
    | 8, _ => simp [go_sem]
    | 9, _ => simp [go_sem]
  · refine twoIn _ _ _ _ _ _ _ _ _ _ (leafIn _ _ _ _ _ (by decide)) (leafIn _ _ _ _ _ (by decide)) ?_
    intro j hj
    match j, hj with
    | 0, _ => simp [go_sem]
    | 1, _ => simp [go_sem]
    | 2, _ => simp [go_sem]
    | 3, _ => simp [go_sem]
    | 4, _ => simp [go_sem]
    | 5, _ => simp [go_sem]
    | 6, _ => simp [go_sem]
    | 7, _ => simp [go_sem]
    | 8, _ => simp [go_sem]
    | 9, _ => simp [go_sem]
  · refine twoIn _ _ _ _ _ _ _ _ _ _ (leafIn _ _ _ _ _ (by decide)) (leafIn _ _ _ _ _ (by decide)) ?_
    intro j hj
    match j, hj with
    | 0, _ => simp [go_sem]
    | 1, _ => simp [go_sem]
    | 2, _ => simp [go_sem]
    | 3, _ => simp [go_sem]
    | 4, _ => simp [go_sem]
    | 5, _ => simp [go_sem]
    | 6, _ => simp [go_sem]
    | 7, _ => simp [go_sem]
    | 8, _ => simp [go_sem]
    | 9, _ => simp [go_sem]
end
end Go.Proofs.Ytbgpjaniohpfaaa
