/-
  The walk of the law Split, for every two texts: it answers true; nothing old changes.
-/
import Derived.Test.YtapdhlfgakbebaaDoorW13
import Derived.Test.YtapdhlfgakbebaaDoorSPlain2
import Derived.Deep.QuietTactic
import Derived.BigQuiet
namespace Go.Proofs.YtapdhlfgakbebaaDoor
open Go.RowKit
theorem tokCells_at : ∀ (ts : List (Nat × Lx.Tok)) (i : Nat) (h : i < ts.length), (tokCells ts)[4 * i]? = some (.int .i64 (ts[i]).2.kind) ∧ (tokCells ts)[4 * i + 1]? = some (.int .i64 (ts[i]).1) ∧ (tokCells ts)[4 * i + 2]? = some (.string { data := (ts[i]).2.text.toArray }) ∧ (tokCells ts)[4 * i + 3]? = some (.int .i64 (ts[i]).2.n)
  | [], i, h => by simp at h
  | p :: ts, 0, h => ⟨rfl, rfl, rfl, rfl⟩
  | p :: ts, i + 1, h => by
    have ih := tokCells_at ts i (by simpa using h)
    have e : ∀ j, (tokCells (p :: ts))[4 * (i + 1) + j]? = (tokCells ts)[4 * i + j]? := by
      intro j
      have : tokCells (p :: ts) = [.int .i64 p.2.kind, .int .i64 p.1, .string { data := p.2.text.toArray }, .int .i64 p.2.n] ++ tokCells ts := rfl
      rw [this, List.getElem?_append_right (by simp; omega)]
      congr 1
      simp
      omega
    have e0 := e 0
    simp only [Nat.add_zero] at e0
    rw [e0, e 1, e 2, e 3]
    exact ih
theorem toks_ab : Lx.toks [97, 32, 98] = ([(0, ⟨3, [97], 0⟩), (2, ⟨3, [98], 0⟩), (3, ⟨0, [], 0⟩)], 0, 0) := rfl
theorem toksA_kind : ∀ (f a : Nat) (l : List UInt8), (Lx.toksA f a l).2.1 = 0 → (Lx.toksA f a l).2 = (0, 0)
  | 0, _, _, _ => rfl
  | f + 1, a, l, h => by
    cases hg : (Lx.gap l).2
    · rw [toksA_unended _ _ _ hg] at h
      simp at h
    · by_cases hd : l.drop (Lx.gap l).1 = []
      · rw [toksA_over _ _ _ hg hd]
      · cases ht : Lx.tok (l.drop (Lx.gap l).1) with
        | none => rw [toksA_none _ _ _ hg hd ht] at h; simp at h
        | some p =>
          rw [toksA_some _ _ _ p.1 p.2 hg hd ht] at h ⊢
          exact toksA_kind f _ _ h
theorem toks_ok (l : List UInt8) (h : (Lx.toks l).2.1 = 0) : (Lx.toks l).2 = (0, 0) ∧ l.length ≤ 4000 := by
  unfold Lx.toks at h ⊢
  split at h
  · simp at h
  · rename_i h1
    split at h
    · simp at h
    · rename_i h2
      rw [if_neg h1, if_neg h2]
      exact ⟨toksA_kind _ _ _ h, by omega⟩
theorem toks_ne (l : List UInt8) (h : (Lx.toks l).2 = (0, 0)) : (Lx.toks l).1 ≠ [] := by
  unfold Lx.toks at h ⊢
  split at h
  · simp at h
  · rename_i h1
    split at h
    · simp at h
    · rename_i h2
      rw [if_neg h1, if_neg h2]
      exact toksA_ne _ _ _ (by omega) h
theorem toksA_len : ∀ (f a : Nat) (l : List UInt8), (Lx.toksA f a l).1.length ≤ l.length + 1
  | 0, _, _ => by simp [Lx.toksA]
  | f + 1, a, l => by
    cases hg : (Lx.gap l).2
    · rw [toksA_unended _ _ _ hg]; simp
    · by_cases hd : l.drop (Lx.gap l).1 = []
      · rw [toksA_over _ _ _ hg hd]; simp
      · cases ht : Lx.tok (l.drop (Lx.gap l).1) with
        | none => rw [toksA_none _ _ _ hg hd ht]; simp
        | some p =>
          have hk := tok_le _ p.1 p.2 ht
          rw [List.length_drop] at hk
          rw [toksA_some _ _ _ p.1 p.2 hg hd ht]
          have ih := toksA_len f (a + (Lx.gap l).1 + p.2) (l.drop ((Lx.gap l).1 + p.2))
          rw [List.length_drop] at ih
          simp only [List.length_cons]
          omega
theorem toks_len (l : List UInt8) (h : l.length ≤ 4000) : (Lx.toks l).1.length ≤ 4001 := by
  unfold Lx.toks
  split
  · simp
  · split
    · simp
    · have := toksA_len (l.length + 1) 0 l
      omega
theorem toksA_place : ∀ (f a : Nat) (l : List UInt8), ∀ p ∈ (Lx.toksA f a l).1, p.1 ≤ a + l.length
  | 0, _, _, p, hp => by simp [Lx.toksA] at hp
  | f + 1, a, l, p, hp => by
    have hgl := gap_le l
    cases hg : (Lx.gap l).2
    · rw [toksA_unended _ _ _ hg] at hp; simp at hp
    · by_cases hd : l.drop (Lx.gap l).1 = []
      · rw [toksA_over _ _ _ hg hd] at hp
        simp at hp
        rw [hp]
        simp only
        omega
      · cases ht : Lx.tok (l.drop (Lx.gap l).1) with
        | none => rw [toksA_none _ _ _ hg hd ht] at hp; simp at hp
        | some q =>
          have hk := tok_le _ q.1 q.2 ht
          rw [List.length_drop] at hk
          rw [toksA_some _ _ _ q.1 q.2 hg hd ht] at hp
          simp only [List.mem_cons] at hp
          rcases hp with rfl | hp
          · simp only; omega
          · have := toksA_place f _ _ p hp
            rw [List.length_drop] at this
            omega
theorem toks_place (l : List UInt8) (h : l.length ≤ 4000) : ∀ p ∈ (Lx.toks l).1, p.1 ≤ 4000 := by
  intro p hp
  unfold Lx.toks at hp
  split at hp
  · simp at hp
  · split at hp
    · simp at hp
    · have := toksA_place _ _ _ p hp
      omega
/-- The token at a place of a list. -/
def tokAt (ts : List (Nat × Lx.Tok)) (i : Nat) : Nat × Lx.Tok := ts.getD i (0, ⟨0, [], 0⟩)
theorem tokAt_get (ts : List (Nat × Lx.Tok)) (i : Nat) (h : i < ts.length) : ts[i] = tokAt ts i := by
  unfold tokAt
  simp [List.getD, List.getElem?_eq_getElem h]
theorem tokAt_mem (ts : List (Nat × Lx.Tok)) (i : Nat) (h : i < ts.length) : tokAt ts i ∈ ts := by
  rw [← tokAt_get ts i h]
  exact List.getElem_mem h
theorem tokAt_front (A B : List (Nat × Lx.Tok)) (i : Nat) (h : i < A.length - 1) : tokAt (A.dropLast ++ B) i = tokAt A i := by
  unfold tokAt
  rw [List.getD, List.getD, List.getElem?_append_left (by simp; exact h), List.getElem?_dropLast, if_pos h]
theorem tokAt_back (A B : List (Nat × Lx.Tok)) (c : Nat) (i : Nat) (h : A.length - 1 ≤ i) (hi : i < A.length - 1 + B.length) : tokAt (A.dropLast ++ B.map (shiftTok c)) i = shiftTok c (tokAt B (i - (A.length - 1))) := by
  unfold tokAt
  rw [List.getD, List.getD, List.getElem?_append_right (by rw [List.length_dropLast]; exact h), List.length_dropLast, List.getElem?_map, List.getElem?_eq_getElem (show i - (A.length - 1) < B.length by omega)]
  rfl
/-- A list of tokens that is not empty, as a slice and its cells. -/
theorem owns_tokens {w : World} {base : Nat} {v : Value} {ts : List (Nat × Lx.Tok)} (h : w.ownsRow base 31 4 v ts.length (tokCells ts)) (hne : ts ≠ []) :
    ∃ g cap, v = .slice (some ⟨g, 0, none⟩) ts.length cap ∧ base ≤ g ∧ g < w.heap.size ∧ ∀ i, i < ts.length → w.cell? ⟨g, i * 4, none⟩ = some (.int .i64 (tokAt ts i).2.kind) ∧ w.cell? ⟨g, i * 4 + 1, none⟩ = some (.int .i64 (tokAt ts i).1) ∧ w.cell? ⟨g, i * 4 + 2, none⟩ = some (.string { data := (tokAt ts i).2.text.toArray }) ∧ w.cell? ⟨g, i * 4 + 3, none⟩ = some (.int .i64 (tokAt ts i).2.n) := by
  have hh := h
  obtain ⟨_, ⟨_, hn⟩ | ⟨g, cap, cur, rfl, hbg, _⟩⟩ := h
  · exact absurd (List.eq_nil_of_length_eq_zero hn) hne
  · refine ⟨g, cap, rfl, hbg, (hh.lt g rfl).2, fun i hi => ?_⟩
    obtain ⟨e0, e1, e2, e3⟩ := tokCells_at ts i hi
    rw [Nat.mul_comm] at e0 e1 e2 e3
    rw [tokAt_get ts i hi] at e0 e1 e2 e3
    rw [hh.cellAt (i * 4) (by omega), hh.cellAt (i * 4 + 1) (by omega), hh.cellAt (i * 4 + 2) (by omega), hh.cellAt (i * 4 + 3) (by omega)]
    exact ⟨e0, e1, e2, e3⟩
set_option maxHeartbeats 2000000 in
set_option maxRecDepth 100000 in
theorem split_walk (s t : ByteArray) (w : World) (hL : Laid w) (hs : s.size ≤ maxLen) (ht : t.size ≤ maxLen) :
    Calls Tryd.prog 5 #[.string s, .string t] w fun e w' => e = .returned (.bool true) ∧ Below w.heap.size w w' := by
  go_enter Tryd.func5, Tryd.ntmps5
  go_wp2_with fail
  refine (tokens_any s _ hL hs).mono ?_
  rintro e w1 ⟨va, rfl, howna, hb1⟩
  have hL1 := hL.keep hb1 hL.two
  go_wp2_with fail
  have hb1' := hb1.alloc hb1.size (Obj.cells #[Value.int IntKind.i64 ((Lx.toks s.data.toList).2.1 : Nat), Value.int IntKind.i64 ((Lx.toks s.data.toList).2.2 : Nat)] 27)
  have hL1' := hL.keep hb1' hL.two
  have howna' := howna.alloc (Obj.cells #[Value.int IntKind.i64 ((Lx.toks s.data.toList).2.1 : Nat), Value.int IntKind.i64 ((Lx.toks s.data.toList).2.2 : Nat)] 27)
  have hF : (w1.alloc (Obj.cells #[Value.int IntKind.i64 ((Lx.toks s.data.toList).2.1 : Nat), Value.int IntKind.i64 ((Lx.toks s.data.toList).2.2 : Nat)] 27)).heap[w1.heap.size]? = some (Obj.cells #[Value.int IntKind.i64 ((Lx.toks s.data.toList).2.1 : Nat), Value.int IntKind.i64 ((Lx.toks s.data.toList).2.2 : Nat)] 27) := heap_alloc_new _ _
  clear hb1 hL1 howna
  refine (tokens_any t _ hL1' ht).mono ?_
  rintro e w2 ⟨vb, rfl, hownb, hb2⟩
  have hb2' := hb2.alloc hb2.size (Obj.cells #[Value.int IntKind.i64 ((Lx.toks t.data.toList).2.1 : Nat), Value.int IntKind.i64 ((Lx.toks t.data.toList).2.2 : Nat)] 27)
  have hL2' := hL1'.keep hb2' hL1'.two
  have hownb' := hownb.alloc (Obj.cells #[Value.int IntKind.i64 ((Lx.toks t.data.toList).2.1 : Nat), Value.int IntKind.i64 ((Lx.toks t.data.toList).2.2 : Nat)] 27)
  have howna2 := owns_keep howna' hb2'
  have hF2 := (hb2'.block w1.heap.size (by simp)).trans hF
  have hG : (w2.alloc (Obj.cells #[Value.int IntKind.i64 ((Lx.toks t.data.toList).2.1 : Nat), Value.int IntKind.i64 ((Lx.toks t.data.toList).2.2 : Nat)] 27)).heap[w2.heap.size]? = some (Obj.cells #[Value.int IntKind.i64 ((Lx.toks t.data.toList).2.1 : Nat), Value.int IntKind.i64 ((Lx.toks t.data.toList).2.2 : Nat)] 27) := heap_alloc_new _ _
  have hbA := Below.then hb1' hb2' (Nat.le_refl _)
  have hz12 : w1.heap.size < w2.heap.size := by have := hb2.size; simp at this; omega
  clear hb1' hb2' hb2 hownb howna' hF hL1'
  go_wp2_with fail
  refine (tokens_any _ _ hL2' (by decide)).mono ?_
  rintro e w3 ⟨vx, rfl, hownx, hb3⟩
  rw [show ({ data := #[97, 32, 98] } : ByteArray).data.toList = [97, 32, 98] from rfl, toks_ab] at hownx ⊢
  have hz23 : w2.heap.size < w3.heap.size := by have := hb3.size; simp at this; omega
  have hL3 := hL2'.keep hb3 hL2'.two
  have hownb3 := owns_keep hownb' hb3
  have howna3 := owns_keep howna2 hb3
  have hF3 := (hb3.block w1.heap.size (by simp; omega)).trans hF2
  have hG3 := (hb3.block w2.heap.size (by simp)).trans hG
  have hbB := Below.then hbA hb3 (Nat.le_refl _)
  clear hb3 hbA hF2 hG hownb' howna2 hL2'
  have hx2 := hownx
  obtain ⟨_, ⟨_, hn⟩ | ⟨gx, cx, cur, rfl, hbg, _⟩⟩ := hownx
  · exact absurd hn (by simp)
  · have x5 : w3.cell? ⟨gx, 5, none⟩ = some (.int .i64 2) := hx2.cellAt 5 (by simp)
    have hgx : gx < w3.heap.size := (hx2.lt gx rfl).2
    clear hx2
    have cellF : ∀ j v, #[Value.int IntKind.i64 ((Lx.toks s.data.toList).2.1 : Nat), Value.int IntKind.i64 ((Lx.toks s.data.toList).2.2 : Nat)][j]? = some v → w3.cell? ⟨w1.heap.size, j, none⟩ = some v := by
      intro j v hj
      unfold World.cell?
      simp only [hF3]
      simpa using hj
    have cF0 := cellF 0 _ rfl
    have cF1 := cellF 1 _ rfl
    have cellG : ∀ j v, #[Value.int IntKind.i64 ((Lx.toks t.data.toList).2.1 : Nat), Value.int IntKind.i64 ((Lx.toks t.data.toList).2.2 : Nat)][j]? = some v → w3.cell? ⟨w2.heap.size, j, none⟩ = some v := by
      intro j v hj
      unfold World.cell?
      simp only [hG3]
      simpa using hj
    have cG0 := cellG 0 _ rfl
    have cG1 := cellG 1 _ rfl
    clear cellF cellG
    have hz13 : w1.heap.size < w3.heap.size := by omega
    have hbC := hbB.alloc hbB.size (Obj.cells #[Value.int IntKind.i64 0, Value.int IntKind.i64 0] 27)
    by_cases hfs : (Lx.toks s.data.toList).2.1 = 0
    · obtain ⟨hfs2, hsl⟩ := toks_ok _ hfs
      have hfs3 : (Lx.toks s.data.toList).2.2 = 0 := by rw [hfs2]
      rw [← Lib.size_eq] at hsl
      by_cases hft : (Lx.toks t.data.toList).2.1 = 0
      · obtain ⟨hft2, htl⟩ := toks_ok _ hft
        have hft3 : (Lx.toks t.data.toList).2.2 = 0 := by rw [hft2]
        rw [← Lib.size_eq] at htl
        have Hfs : Hid _ := hfs2
        have Hft : Hid _ := hft2
        clear hfs2 hft2
        by_cases hlen : 4000 < s.size + t.size + 1
        · have hlen' : (4000 : Int) < s.size + t.size + 1 := by omega
          go_wp2
          go_ret
          exact ⟨rfl, hbC⟩
        · have hlen' : ¬ (4000 : Int) < s.size + t.size + 1 := by omega
          have hU : (s ++ { data := #[10] } ++ t).data.toList = s.data.toList ++ 10 :: t.data.toList := by simp [ByteArray.data_append]
          have hUs : (s ++ { data := #[10] } ++ t).size ≤ maxLen := by
            rw [Lib.size_eq, hU, List.length_append, List.length_cons, ← Lib.size_eq, ← Lib.size_eq]
            unfold maxLen
            omega
          have hTU := toks_sep s.data.toList t.data.toList Hfs.out Hft.out (by rw [← Lib.size_eq, ← Lib.size_eq]; exact hlen)
          have hneA := hTU.2
          have hneB := toks_ne _ Hft.out
          have HTU : Hid _ := hTU.1
          clear hTU Hfs Hft
          have hL3' := hL3.keep (hbB.alloc hbB.size (Obj.cells #[Value.int IntKind.i64 0, Value.int IntKind.i64 0] 27) |>.mono (Nat.le_refl _) |> fun _ => (Below.refl w3.heap.size w3).alloc (Nat.le_refl _) (Obj.cells #[Value.int IntKind.i64 0, Value.int IntKind.i64 0] 27)) hL3.two
          go_wp2_with fail
          refine (tokens_any _ _ hL3' hUs).mono ?_
          rintro e w4 ⟨vc, rfl, hownc, hb4⟩
          rw [hU, HTU.out] at hownc ⊢
          have hown_a := owns_keep (howna3.alloc (Obj.cells #[Value.int IntKind.i64 0, Value.int IntKind.i64 0] 27)) hb4
          have hown_b := owns_keep (hownb3.alloc (Obj.cells #[Value.int IntKind.i64 0, Value.int IntKind.i64 0] 27)) hb4
          have hbD := Below.then hbC hb4 (Nat.le_refl _)
          have hlA := toks_len s.data.toList (by rw [← Lib.size_eq]; exact hsl)
          have hlB := toks_len t.data.toList (by rw [← Lib.size_eq]; exact htl)
          have HpB : Hid _ := toks_place t.data.toList (by rw [← Lib.size_eq]; exact htl)
          clear hU hUs HTU hL3 hL3' howna3 hownb3 hb4 hbB hbC cF0 cF1 cG0 cG1 x5 hF3 hG3
          generalize (Lx.toks s.data.toList).1 = A at *
          generalize (Lx.toks t.data.toList).1 = B at *
          obtain ⟨ga, ca, rfl, _, hga, cellA⟩ := owns_tokens hown_a hneA
          obtain ⟨gb, cb, rfl, _, hgb, cellB⟩ := owns_tokens hown_b hneB
          have hneC : A.dropLast ++ B.map (shiftTok (s.data.toList.length + 1)) ≠ [] := by simp [hneB]
          obtain ⟨gc, cc, rfl, _, hgc, cellC⟩ := owns_tokens hownc hneC
          have hA1 : 1 ≤ A.length := by cases A with | nil => exact absurd rfl hneA | cons _ _ => simp
          have hB1 : 1 ≤ B.length := by cases B with | nil => exact absurd rfl hneB | cons _ _ => simp
          have hlC : (A.dropLast ++ B.map (shiftTok (s.data.toList.length + 1))).length = A.length - 1 + B.length := by simp
          have hCA := fun i => tokAt_front A (B.map (shiftTok (s.data.toList.length + 1))) i
          have hCB := fun i => tokAt_back A B (s.data.toList.length + 1) i
          clear hown_a hown_b hownc hneA hneB hneC
          simp only at hlC cellC ⊢
          generalize A.dropLast ++ B.map (shiftTok (s.data.toList.length + 1)) = C at *
          have HCA : Hid _ := hCA
          have HCB : Hid _ := hCB
          have HlC : Hid _ := hlC
          have hlCn : (((C.length : Nat) : Int) != (A.length : Int) + (B.length : Int) - 1) = false := by
            rw [bne_eq_false_iff_eq]
            omega
          have hlC1 : C.length ≤ 8002 := by omega
          have hlC2 : C.length < A.length - 1 + B.length + 1 := by omega
          clear hCA hCB hlC
          have HcA : Hid _ := cellA
          have HcB : Hid _ := cellB
          have HcC : Hid _ := cellC
          clear cellA cellB cellC
          go_wp2_with fail
          go_loopw [13] (fun i wr => ∃ k : Nat, k ≤ C.length ∧ i = .int .i64 k ∧ Below w4.heap.size w4 wr) (fun i _ => C.length - (intOf i).toNat)
          case atStart => exact ⟨0, by omega, rfl, (Below.refl _ _).alloc (Nat.le_refl _) _⟩
          case round =>
            rename_i wr
            obtain ⟨k, hk, rfl, hbe⟩ := hrel
            have hbE : Below w.heap.size w wr := hbD.trans (hbe.mono hbD.size)
            by_cases hlt : k < C.length
            · obtain ⟨c0, c1, c2, c3⟩ := HcC.out k hlt
              rw [← hbe.cell (p := ⟨gc, k * 4, none⟩) hgc] at c0
              rw [← hbe.cell (p := ⟨gc, k * 4 + 1, none⟩) hgc] at c1
              rw [← hbe.cell (p := ⟨gc, k * 4 + 2, none⟩) hgc] at c2
              rw [← hbe.cell (p := ⟨gc, k * 4 + 3, none⟩) hgc] at c3
              have hgc' := Nat.lt_of_lt_of_le hgc hbe.size
              have hga' := Nat.lt_of_lt_of_le hga hbe.size
              have hgb' := Nat.lt_of_lt_of_le hgb hbe.size
              by_cases hfront : k < A.length - 1
              · have hf' : (k : Int) < (A.length : Int) - 1 := by omega
                obtain ⟨a0, a1, a2, a3⟩ := HcA.out k (by omega)
                rw [← hbe.cell (p := ⟨ga, k * 4, none⟩) hga] at a0
                rw [← hbe.cell (p := ⟨ga, k * 4 + 1, none⟩) hga] at a1
                rw [← hbe.cell (p := ⟨ga, k * 4 + 2, none⟩) hga] at a2
                rw [← hbe.cell (p := ⟨ga, k * 4 + 3, none⟩) hga] at a3
                rw [HCA.out k hfront] at c0 c1 c2 c3
                generalize tokAt A k = ta at *
                go_wp2_with fail
                go_quiet (fail)
                go_wp2
                exact ⟨⟨k + 1, by omega, by go_num, below_drewN (hbe.alloc hbe.size _) _⟩, by simp [intOf]; omega⟩
              · have hf' : ¬ (k : Int) < (A.length : Int) - 1 := by omega
                obtain ⟨m, hm⟩ : ∃ m, m = k - (A.length - 1) := ⟨_, rfl⟩
                have hm1 : m < B.length := by omega
                have hkm : ((k : Int) - (A.length : Int) + 1).toNat = m := by omega
                obtain ⟨a0, a1, a2, a3⟩ := HcB.out m hm1
                rw [← hbe.cell (p := ⟨gb, m * 4, none⟩) hgb] at a0
                rw [← hbe.cell (p := ⟨gb, m * 4 + 1, none⟩) hgb] at a1
                rw [← hbe.cell (p := ⟨gb, m * 4 + 2, none⟩) hgb] at a2
                rw [← hbe.cell (p := ⟨gb, m * 4 + 3, none⟩) hgb] at a3
                rw [HCB.out k (by omega) (by omega), ← hm] at c0 c1 c2 c3
                simp only [shiftTok] at c0 c1 c2 c3
                clear hm
                have hta := HpB.out _ (tokAt_mem B m hm1)
                generalize tokAt B m = ta at *
                rw [show ((ta.1 + (s.data.toList.length + 1) : Nat) : Int) = (ta.1 : Int) + (s.size : Int) + 1 from by rw [← Lib.size_eq]; omega] at c1
                have hkm0 : 0 ≤ (k : Int) - (A.length : Int) + 1 := by omega
                have hkm1 : (k : Int) - (A.length : Int) + 1 < B.length := by omega
                go_wp2_with fail
                go_quiet (fail)
                go_wp2
                refine ⟨?_, ?_⟩
                · repeat apply Exists.intro
                  exact ⟨⟨k + 1, by omega, by go_num, below_drewN (hbe.alloc hbe.size _) _⟩, rfl⟩
                · simp [intOf]
                  omega
            · go_wp2
              go_ret
              exact ⟨rfl, hbE⟩
      · clear hfs2
        go_wp2
        go_ret
        exact ⟨rfl, hbC⟩
    · go_wp2
      go_ret
      exact ⟨rfl, hbC⟩
end Go.Proofs.YtapdhlfgakbebaaDoor
