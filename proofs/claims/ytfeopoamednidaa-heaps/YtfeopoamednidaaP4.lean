/-
  The program's heap: take.
-/
import Derived.Test.YtfeopoamednidaaP3
namespace Go.Proofs.Ytfeopoamednidaa
open Go.RowKit Go.Deep Go.IntWalk
section
set_option maxHeartbeats 8000000
set_option maxRecDepth 100000
inductive TakePost (w : World) (hb o : Nat) (v : Value) (ws : List Wd) (k : Nat) : Ending → World → Prop
  | mk (g cap : Nat) (w3 : World) (h1 : OwnW w3 (.slice (some ⟨g, 0, none⟩) (ws.length + k) cap) (ws ++ List.replicate k zw)) (h2 : w.grownBy w3 v.ownBlock) (h3 : v.ownBlock = some g ∨ g = w.heap.size) (h4 : ws.length + k ≤ cap) :
    TakePost w hb o v ws k (.returned (.slice (some ⟨g, ws.length * 5, none⟩) k (cap - ws.length))) (w3.setCell ⟨hb, o + 2, none⟩ (.slice (some ⟨g, 0, none⟩) (ws.length + k) cap))
theorem take_any (w : World) (hb o : Nat) (v : Value) (ws : List Wd) (hc : w.cell? ⟨hb, o + 2, none⟩ = some v) (hf : w.frozen? ⟨hb, o + 2, none⟩ = false) (hne : v.ownBlock ≠ some hb) (ho : OwnW w v ws) (k : Nat) (hk : 0 < k) (hl : ws.length ≤ 1000000) (hlk : ws.length + k ≤ 2000000) :
    Calls Try.prog 28 #[.pointer (some ⟨hb, o, none⟩), .int .i64 k] w fun e w' => TakePost w hb o v ws k e w' := by
  obtain ⟨p, cap, rfl, hcap, _, _, _⟩ := ho.at hl
  have hlt := World.block_lt_of_cell? _ _ hc
  obtain ⟨g, cap', w3, hrun, ho3, hg3, hat, hc4⟩ := run_append_zeros ho k hk hlk 41
  have hb3 : w3.heap[hb]? = w.heap[hb]? := hg3.block hb hlt (fun e => hne e.symm)
  have hc3 : w3.cell? ⟨hb, o + 2, none⟩ = some (.slice p ws.length cap) := (World.cell?_of_block (w := w) hb3).trans hc
  have hf3 : w3.frozen? ⟨hb, o + 2, none⟩ = false := (World.frozen?_of_block (w := w) hb3).trans hf
  have hlt3 : hb < w3.heap.size := Nat.lt_of_lt_of_le hlt hg3.size
  have Q : Hid (TakePost w hb o (.slice p ws.length cap) ws k (.returned (.slice (some ⟨g, ws.length * 5, none⟩) k (cap' - ws.length))) (w3.setCell ⟨hb, o + 2, none⟩ (.slice (some ⟨g, 0, none⟩) (ws.length + k) cap'))) := TakePost.mk g cap' w3 ho3 hg3 hat hc4
  have hcell : (w3.setCell ⟨hb, o + 2, none⟩ (.slice (some ⟨g, 0, none⟩) (ws.length + k) cap')).cell? ⟨hb, o + 2, none⟩ = some (.slice (some ⟨g, 0, none⟩) (ws.length + k) cap') := World.cell?_setCell_same' _ _ _ (by rw [hc3]; rfl)
  have hltc : hb < (w3.setCell ⟨hb, o + 2, none⟩ (.slice (some ⟨g, 0, none⟩) (ws.length + k) cap')).heap.size := by simpa [World.setCell] using hlt3
  have h1 : ws.length ≤ ws.length + k := by omega
  have h2 : ws.length < cap' := by omega
  have h3 : ws.length + k - ws.length = k := by omega
  clear ho ho3 hg3 hb3
  go_enter Try.func28, Try.ntmps28
  go_wp2_with (at_builtin; refine Lib.wpList_append_run _ rfl _ _ _ _ rfl _ _ rfl rfl _ _ hrun ?_)
  exact bodyPost_ret (by simp [results, Try.results28, go_sem]) rfl Q.out
theorem new_any (w : World) (cells : Int) (hc : 0 ≤ cells ∧ cells ≤ 1000000) : Calls Try.prog 4 #[.int .i64 cells] w fun e w' => e = .returned (.tuple #[.pointer (some ⟨w.heap.size, 0, none⟩), .int .i64 0]) ∧ w' = w.alloc (.cells #[.int .i64 cells, .int .i64 1, .slice none 0 0] 43) := by
  have h1 : ¬ (cells < 0) := by omega
  have h2 : ¬ (1000000 < cells) := by omega
  go_enter Try.func4, Try.ntmps4
  go_wp2
  exact bodyPost_ret (by simp [results, Try.results4, go_sem]) rfl ⟨rfl, rfl⟩
theorem new_no (w : World) (cells : Int) (hc : cells < 0 ∨ 1000000 < cells) : Calls Try.prog 4 #[.int .i64 cells] w fun e w' => e = .returned (.tuple #[.pointer none, .int .i64 21]) ∧ w' = w := by
  by_cases h1 : cells < 0
  · go_enter Try.func4, Try.ntmps4
    go_wp2
    exact bodyPost_ret (by simp [results, Try.results4, go_sem]) rfl ⟨rfl, rfl⟩
  · have h2 : 1000000 < cells := by omega
    go_enter Try.func4, Try.ntmps4
    go_wp2
    exact bodyPost_ret (by simp [results, Try.results4, go_sem]) rfl ⟨rfl, rfl⟩
end
end Go.Proofs.Ytfeopoamednidaa
