/-
  The program's layer matches: a row from behind (slices.Backward).
-/
import Derived.Test.YtjhfomfaddfklaaV5
import Derived.RangeFuncNested
import Derived.RangeFuncBound
import Derived.RangeFuncCalls
import Derived.RangeFuncLeaves
import Derived.Shelf.Abstract
import Derived.Shelf.RegionOpen
import Derived.OwnWalkIn
import Derived.TacticsInMore
import Derived.LoopNIn
import Derived.LoopIn
namespace Go.Proofs.Ytjhfomfaddfklaa
open Go.RowKit Go.Deep Go.Shelf
attribute [local go_sem] Oper.semAt_some
/-- What a round is handed: a place, a pattern of the row. -/
structure BackEl (wb : World) (l : List Pt) where
  i : Int
  c : PC
  P : Pt
  hP : PtIn wb c P
  hm : P ∈ l
def BackEl.enc {wb : World} {l : List Pt} (x : BackEl wb l) : Array Value := #[.int .i64 x.i, x.c.val]
/-- What a round that goes on keeps: all blocks below a bound, and one more. -/
def KpB (n0 Bs : Nat) (A B : World) : Prop := Below n0 A B ∧ B.heap[Bs]? = A.heap[Bs]?
theorem KpB.refl (n0 Bs : Nat) (A : World) : KpB n0 Bs A A := ⟨Below.refl _ _, rfl⟩
theorem KpB.trans {n0 Bs : Nat} {A B C : World} (h : KpB n0 Bs A B) (k : KpB n0 Bs B C) : KpB n0 Bs A C := ⟨h.1.trans k.1, k.2.trans h.2⟩
section
set_option maxHeartbeats 4000000
set_option maxRecDepth 100000
theorem back1 (wb : World) (lst : List Pt) (n : Nat) (hn : 1 ≤ n) (l Bs n0 : Nat) (p : Option Addr) (cap : Nat) (hlen : lst.length ≤ 1000) (J Jx : List (BackEl wb lst) → World → Prop)
    (hY : ∀ pre x W, J pre W → pre.length < lst.length → YieldAt Fence.wide (n - 1) Try.prog l x.enc W fun e W' =>
      (e = .returned (.bool true) ∧ J (pre ++ [x]) W' ∧ KpB n0 Bs W W') ∨ (e = .returned (.bool false) ∧ Jx (pre ++ [x]) W'))
    (W : World) (hBs : W.cell? ⟨Bs, 0, none⟩ = some (.slice p lst.length cap)) (hrow : RowAt wb W p lst) (hrn : ∀ b : Addr, p = some b → lst ≠ [] → b.block < n0) (h0 : J [] W) :
    CallsIn Fence.wide n Try.prog 47 #[.func (.yield l) #[] #[], .pointer (some ⟨Bs, 0, none⟩)] W fun e W' => (∃ v, e = .returned v) ∧
      ((∃ ys, ys.map (·.P) = lst.reverse ∧ J ys W') ∨ (∃ pre, True ∧ Jx pre W')) := by
  refine callsIn_of_wp Try.func47 rfl trivial ?_ rfl
  simp only [Try.ntmps47, List.size_toArray, List.length_cons, List.length_nil, Nat.reduceAdd, Nat.reduceSub, Array.replicate_succ, Array.replicate_zero, List.push_toArray, List.append_toArray, List.nil_append, List.cons_append]
  have hw1 : IntKind.i64.wrap ((lst.length : Int) - 1) = (lst.length : Int) - 1 := by rw [IntKind.wrap_i64]; omega
  gi_wp2
  gi_loopw [3] (fun iv wr => ∃ (k : Nat) (pre : List (BackEl wb lst)), k ≤ lst.length ∧ iv = .int .i64 ((k : Int) - 1) ∧ Hid (pre.map (·.P) = (lst.drop k).reverse ∧ pre.length = lst.length - k ∧ J pre wr ∧ KpB n0 Bs W wr))
    (fun i _ => (intOf i + 1).toNat)
  case atStart => exact ⟨lst.length, [], Nat.le_refl _, rfl, by simp, by simp, h0, KpB.refl _ _ _⟩
  case round =>
    obtain ⟨k, pre, hk, rfl, HL⟩ := hrel
    obtain ⟨q1, q2, q3, q4⟩ := HL.out
    clear HL
    by_cases hk0 : k = 0
    · subst hk0
      gi_wp2
      go_end0
      exact ⟨⟨_, rfl⟩, .inl ⟨pre, by simpa using q1, q3⟩⟩
    · obtain ⟨j, rfl⟩ : ∃ j, k = j + 1 := ⟨k - 1, by omega⟩
      have hj : j < lst.length := by omega
      rw [show (((j + 1 : Nat) : Int) - 1) = (j : Int) by omega]
      obtain ⟨b, o, c, rfl, hc6, hPt⟩ := hrow.get j hj
      have hbn := hrn _ rfl (fun e => by rw [e] at hj; cases hj)
      simp only at hbn
      have hcs : wr.cell? ⟨Bs, 0, none⟩ = some (.slice (some ⟨b, o, none⟩) lst.length cap) := (World.cell?_of_block (w := W) q4.2).trans hBs
      obtain ⟨d0, d1, d2, d3, d4, d5⟩ := hc6
      replace d0 := (q4.1.cell (p := ⟨b, _, none⟩) hbn).trans d0
      replace d1 := (q4.1.cell (p := ⟨b, _, none⟩) hbn).trans d1
      replace d2 := (q4.1.cell (p := ⟨b, _, none⟩) hbn).trans d2
      replace d3 := (q4.1.cell (p := ⟨b, _, none⟩) hbn).trans d3
      replace d4 := (q4.1.cell (p := ⟨b, _, none⟩) hbn).trans d4
      replace d5 := (q4.1.cell (p := ⟨b, _, none⟩) hbn).trans d5
      have hbl := World.block_lt_of_cell? _ _ d0
      have hbl2 := World.block_lt_of_cell? _ _ hcs
      have hstep : (lst.drop j).reverse = (lst.drop (j + 1)).reverse ++ [lst[j]'hj] := by rw [List.drop_eq_getElem_cons hj]; simp
      obtain ⟨x, hx⟩ : ∃ x : BackEl wb lst, x = ⟨(j : Int), c, lst[j]'hj, hPt, List.getElem_mem hj⟩ := ⟨_, rfl⟩
      have Hnext : Hid ((pre ++ [x]).map (·.P) = (lst.drop j).reverse ∧ (pre ++ [x]).length = lst.length - j) := ⟨by rw [List.map_append, q1, hstep, hx]; rfl, by simp; omega⟩
      obtain ⟨fn, tmps, assign, body, hy, hR⟩ := hY pre x wr q3 (by omega)
      have hxe : x.enc = #[.int .i64 j, c.val] := by rw [hx]; rfl
      rw [hxe] at hy
      obtain ⟨ck, cn, co, ca, cs, cp, cl, cc⟩ := c
      simp only [PC.val] at *
      have hji : (j : Int) < lst.length := by omega
      have hw2 : IntKind.i64.wrap ((j : Int) - 1) = (j : Int) - 1 := by rw [IntKind.wrap_i64]; omega
      clear hstep hx hxe hY hrn hPt hrow q1 q2
      gi_wp2
      refine hR.mono ?_
      rintro e W3 (⟨rfl, hJ3, hk3⟩ | ⟨rfl, hJx3⟩)
      · gi_wp2
        go_roundw
        case rel => exact ⟨j, pre ++ [x], by omega, rfl, Hnext.out.1, Hnext.out.2, hJ3, q4.trans hk3⟩
        case measure => simp [intOf]
      · gi_wp2
        refine bodyPost_ret (results_none rfl _ _ _) rfl ?_
        exact ⟨⟨_, rfl⟩, .inr ⟨pre ++ [x], trivial, hJx3⟩⟩
theorem back_stops (wb : World) (lst : List Pt) (n : Nat) (hn : 1 ≤ n) (Bs n0 : Nat) (p : Option Addr) (cap : Nat) (hlen : lst.length ≤ 1000) (w : World) (hBs : w.cell? ⟨Bs, 0, none⟩ = some (.slice p lst.length cap)) (hBn : Bs < w.heap.size) (hrow : RowAt wb w p lst) (hrn : ∀ b : Addr, p = some b → lst ≠ [] → b.block < n0) :
    SeqStopsK Fence.wide n Try.prog 47 #[.pointer (some ⟨Bs, 0, none⟩)] (fun x : BackEl wb lst => x.enc) (KpB n0 Bs) (fun ys => ys.map (·.P) = lst.reverse) (fun _ => True) lst.length w := fun l J Jx W hW _ _ hY h0 => by
  exact back1 wb lst n hn l Bs n0 p cap hlen J Jx hY W ((hW.cell (p := ⟨Bs, 0, none⟩) hBn).trans hBs) (hrow.below hW) hrn h0
theorem backward_any (p : Option Addr) (len cap : Nat) (w : World) : Calls Try.prog 39 #[.slice p len cap] w fun e w' => e = .returned (.func (.func 47) #[] #[.pointer (some ⟨w.heap.size, 0, none⟩)]) ∧ w' = w.alloc (.cells #[.slice p len cap] 23) := by
  go_enter Try.func39, Try.ntmps39
  go_wp2
  go_ret
  exact ⟨rfl, rfl⟩
end
end Go.Proofs.Ytjhfomfaddfklaa
