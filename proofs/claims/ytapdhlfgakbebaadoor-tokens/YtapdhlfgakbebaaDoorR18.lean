/-
  The law Tokens, for every text: it answers true; nothing old changes.
-/
import Derived.Test.YtapdhlfgakbebaaDoorR17
import Derived.Test.YtapdhlfgakbebaaDoorW17
namespace Go.Proofs.YtapdhlfgakbebaaDoor
open Go.RowKit
theorem owns_none {w : World} {base : Nat} {v : Value} (h : w.ownsRow base 31 4 v 0 (tokCells [])) : ∃ p c, v = .slice p 0 c := by
  obtain ⟨_, ⟨h1, _⟩ | ⟨g, cap, cur, h1, _⟩⟩ := h
  · exact ⟨_, _, h1⟩
  · exact ⟨_, _, h1⟩
theorem toks_len_any (l : List UInt8) : (Lx.toks l).1.length ≤ 4001 := by
  unfold Lx.toks
  split
  · simp
  · split
    · simp
    · have := toksA_len (l.length + 1) 0 l
      omega
set_option maxHeartbeats 2000000 in
set_option maxRecDepth 100000 in
theorem same_any (ts : List (Nat × Lx.Tok)) (va vb : Value) (ba bb : Nat) (w : World) (ha : w.ownsRow ba 31 4 va ts.length (tokCells ts)) (hb : w.ownsRow bb 31 4 vb ts.length (tokCells ts)) (hl : ts.length ≤ 4001) :
    Calls Tryd.prog 11 #[va, vb] w fun e w' => e = .returned (.bool true) ∧ Below w.heap.size w w' := by
  cases hts : ts with
  | nil =>
    rw [hts] at ha hb
    obtain ⟨p, c, rfl⟩ := owns_none ha
    obtain ⟨p', c', rfl⟩ := owns_none hb
    clear ha hb hts hl
    go_enter Tryd.func11, Tryd.ntmps11
    go_wp2
    go_loop [5] (fun i => i = .int .i64 0) (fun _ => 0)
    case atStart => rfl
    case round =>
      subst hrel
      go_wp2
      go_ret
      exact ⟨rfl, Below.refl _ _⟩
  | cons q r =>
    have hne : ts ≠ [] := by rw [hts]; simp
    obtain ⟨ga, ca, rfl, _, hga, cellA⟩ := owns_tokens ha hne
    obtain ⟨gb, cb, rfl, _, hgb, cellB⟩ := owns_tokens hb hne
    clear ha hb hne hts
    have HcA : Hid _ := cellA
    have HcB : Hid _ := cellB
    clear cellA cellB
    go_enter Tryd.func11, Tryd.ntmps11
    go_wp2
    go_loopw [5] (fun i wr => ∃ k : Nat, k ≤ ts.length ∧ i = .int .i64 k ∧ Below w.heap.size w wr) (fun i _ => ts.length - (intOf i).toNat)
    case atStart => exact ⟨0, by omega, rfl, Below.refl _ _⟩
    case round =>
      rename_i wr
      obtain ⟨k, hk, rfl, hbe⟩ := hrel
      by_cases hlt : k < ts.length
      · obtain ⟨c0, c1, c2, c3⟩ := HcA.out k hlt
        rw [← hbe.cell (p := ⟨ga, k * 4, none⟩) hga] at c0
        rw [← hbe.cell (p := ⟨ga, k * 4 + 1, none⟩) hga] at c1
        rw [← hbe.cell (p := ⟨ga, k * 4 + 2, none⟩) hga] at c2
        rw [← hbe.cell (p := ⟨ga, k * 4 + 3, none⟩) hga] at c3
        obtain ⟨a0, a1, a2, a3⟩ := HcB.out k hlt
        rw [← hbe.cell (p := ⟨gb, k * 4, none⟩) hgb] at a0
        rw [← hbe.cell (p := ⟨gb, k * 4 + 1, none⟩) hgb] at a1
        rw [← hbe.cell (p := ⟨gb, k * 4 + 2, none⟩) hgb] at a2
        rw [← hbe.cell (p := ⟨gb, k * 4 + 3, none⟩) hgb] at a3
        have hga' := Nat.lt_of_lt_of_le hga hbe.size
        have hgb' := Nat.lt_of_lt_of_le hgb hbe.size
        generalize tokAt ts k = ta at *
        have hlt' : (k : Int) < ts.length := by omega
        go_wp2_with fail
        go_quiet (fail)
        go_wp2
        exact ⟨⟨k + 1, by omega, by go_num, below_drewN hbe _⟩, by simp [intOf]; omega⟩
      · have hlt' : ¬ (k : Int) < ts.length := by omega
        go_wp2
        go_ret
        exact ⟨rfl, hbe⟩
set_option maxHeartbeats 2000000 in
set_option maxRecDepth 100000 in
theorem one_any (s : ByteArray) (w : World) (hL : Laid w) (hs : s.size ≤ maxLen) :
    Calls Tryd.prog 6 #[.string s] w fun e w' => e = .returned (.bool true) ∧ Below w.heap.size w w' := by
  have hlen := toks_len_any s.data.toList
  have htk := fun w hL => tokens_any s w hL hs
  have htr := fun w => tokensRef_any s w hs
  generalize Lx.toks s.data.toList = T at *
  obtain ⟨ts, f0, f1⟩ := T
  have Htk : Hid _ := htk
  have Htr : Hid _ := htr
  clear htk htr
  simp only at hlen
  go_enter Tryd.func6, Tryd.ntmps6
  go_wp2_with fail
  refine (Htk.out _ hL).mono ?_
  rintro e w1 ⟨va, rfl, howna, hb1⟩
  simp only at howna ⊢
  have hb1' := hb1.alloc hb1.size (Obj.cells #[Value.int IntKind.i64 (f0 : Nat), Value.int IntKind.i64 (f1 : Nat)] 27)
  have howna' := howna.alloc (Obj.cells #[Value.int IntKind.i64 (f0 : Nat), Value.int IntKind.i64 (f1 : Nat)] 27)
  have hF : (w1.alloc (Obj.cells #[Value.int IntKind.i64 (f0 : Nat), Value.int IntKind.i64 (f1 : Nat)] 27)).heap[w1.heap.size]? = some (Obj.cells #[Value.int IntKind.i64 (f0 : Nat), Value.int IntKind.i64 (f1 : Nat)] 27) := heap_alloc_new _ _
  clear hb1 howna hL
  go_wp2_with fail
  refine (Htr.out _).mono ?_
  rintro e w2 ⟨vb, rfl, hownb, hb2⟩
  simp only at hownb ⊢
  have hb2' := hb2.alloc hb2.size (Obj.cells #[Value.int IntKind.i64 (f0 : Nat), Value.int IntKind.i64 (f1 : Nat)] 27)
  have hownb' := hownb.alloc (Obj.cells #[Value.int IntKind.i64 (f0 : Nat), Value.int IntKind.i64 (f1 : Nat)] 27)
  have howna2 := owns_keep howna' hb2'
  have hF2 := (hb2'.block w1.heap.size (by simp)).trans hF
  have hG : (w2.alloc (Obj.cells #[Value.int IntKind.i64 (f0 : Nat), Value.int IntKind.i64 (f1 : Nat)] 27)).heap[w2.heap.size]? = some (Obj.cells #[Value.int IntKind.i64 (f0 : Nat), Value.int IntKind.i64 (f1 : Nat)] 27) := heap_alloc_new _ _
  have hbA := Below.then hb1' hb2' (Nat.le_refl _)
  have hz12 : w1.heap.size < w2.heap.size := by have := hb2.size; simp at this; omega
  clear hb1' hb2' hb2 hownb howna' hF Htk Htr
  go_wp2_with fail
  refine (same_any ts va vb _ _ _ howna2 hownb' hlen).mono ?_
  rintro e w3 ⟨rfl, hb3⟩
  have hF3 := (hb3.block w1.heap.size (by simp; omega)).trans hF2
  have hG3 := (hb3.block w2.heap.size (by simp)).trans hG
  have hbB := Below.then hbA hb3 (Nat.le_refl _)
  have hz23 : w2.heap.size < w3.heap.size := by have := hb3.size; simp at this; omega
  have hz13 : w1.heap.size < w3.heap.size := by omega
  clear hb3 hbA hF2 hG hownb' howna2
  have cellF : ∀ j v, #[Value.int IntKind.i64 (f0 : Nat), Value.int IntKind.i64 (f1 : Nat)][j]? = some v → w3.cell? ⟨w1.heap.size, j, none⟩ = some v := by
    intro j v hj
    unfold World.cell?
    simp only [hF3]
    simpa using hj
  have cF0 := cellF 0 _ rfl
  have cF1 := cellF 1 _ rfl
  have cellG : ∀ j v, #[Value.int IntKind.i64 (f0 : Nat), Value.int IntKind.i64 (f1 : Nat)][j]? = some v → w3.cell? ⟨w2.heap.size, j, none⟩ = some v := by
    intro j v hj
    unfold World.cell?
    simp only [hG3]
    simpa using hj
  have cG0 := cellG 0 _ rfl
  have cG1 := cellG 1 _ rfl
  clear cellF cellG hF3 hG3
  go_wp2
  go_ret
  exact ⟨rfl, hbB⟩
set_option maxHeartbeats 2000000 in
set_option maxRecDepth 100000 in
theorem law_any (s : ByteArray) (w : World) (hL : Laid w) (hs : s.size ≤ maxLen) :
    Calls Tryd.prog 3 #[.string s] w fun e w' => e = .returned (.bool true) ∧ Below w.heap.size w w' := by
  go_enter Tryd.func3, Tryd.ntmps3
  go_wp2_with fail
  refine (one_any _ _ hL (by decide)).mono ?_
  rintro e w1 ⟨rfl, hb1⟩
  go_wp2_with fail
  refine (one_any s _ (hL.keep hb1 hL.two) hs).mono ?_
  rintro e w2 ⟨rfl, hb2⟩
  have hbA := Below.then hb1 hb2 (Nat.le_refl _)
  clear hb1 hb2
  go_wp2
  go_ret
  exact ⟨rfl, hbA⟩
end Go.Proofs.YtapdhlfgakbebaaDoor
