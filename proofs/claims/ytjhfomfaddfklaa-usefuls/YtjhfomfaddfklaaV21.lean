/-
  The program's layer matches: Useful.
-/
import Derived.Test.YtjhfomfaddfklaaV20
import Derived.Test.YtjhfomfaddfklaaU15
namespace Go.Proofs.Ytjhfomfaddfklaa
open Go.RowKit Go.Deep Go.Shelf
/-- The line lies in blocks of cells from B on, off one block. -/
def LOff (B : Nat) (o : Option Nat) (w : World) (q : Option Addr) (l : List Pt) : Prop := ∀ w', (∀ k x, B ≤ k → o ≠ some k → w.heap[k]? = some x → x.isCells = true → w'.heap[k]? = some x) → LineAt w' w' q l
theorem LOff.step {B : Nat} {o o' : Option Nat} {w w' : World} {q : Option Addr} {l : List Pt} (h : LOff B o w q l) (hk : ∀ k x, B ≤ k → o ≠ some k → w.heap[k]? = some x → x.isCells = true → w'.heap[k]? = some x ∧ o' ≠ some k) : LOff B o' w' q l := fun w'' h'' => h w'' (fun k x h0 h1 h2 h3 => h'' k x h0 (hk k x h0 h1 h2 h3).2 (hk k x h0 h1 h2 h3).1 h3)
theorem LFresh.off {B B' : Nat} {w : World} {q : Option Addr} {l : List Pt} (h : LFresh B w q l) {o : Option Nat} (ho : ∀ k, o = some k → k < B) (hB : B' ≤ B) : LOff B' o w q l := fun w' h' => h w' (fun k x h1 h2 h3 => h' k x (by omega) (fun e => by have := ho k e; omega) h2 h3)
/-- Lines in the making. -/
structure OwnF (B : Nat) (w : World) (v : Value) (M : List LC) : Prop where
  row : w.ownsRow B 41 1 v M.length (M.map LC.val)
  els : ∀ x ∈ M, x.l.length ≤ x.cap ∧ (x.q = none → x.cap = 0) ∧ LOff B v.ownBlock w x.q x.l
theorem OwnF.below {B : Nat} {w w' : World} {v : Value} {M : List LC} (h : OwnF B w v M) (hb : Below w.heap.size w w') : OwnF B w' v M :=
  ⟨owns_below h.row hb, fun x hx => ⟨(h.els x hx).1, (h.els x hx).2.1, (h.els x hx).2.2.step (fun k _ _ hne hk _ => ⟨(hb.block k (Array.getElem?_eq_some_iff.1 hk).1).trans hk, hne⟩)⟩⟩
theorem OwnF.at {B : Nat} {w : World} {v : Value} {M : List LC} (h : OwnF B w v M) (hm : M.length ≤ maxLen) : ∃ q cap, v = .slice q M.length cap ∧ M.length ≤ cap ∧ LinesAt w w q (M.map (·.l)) := by
  rcases h.row.2 with ⟨rfl, h0⟩ | ⟨g, cap, cur, rfl, h1, h2, h3, h4, h5, h6⟩
  · have : M = [] := List.eq_nil_of_length_eq_zero h0
    subst this
    exact ⟨none, 0, rfl, Nat.le_refl _, LinesAt.nil _ _ _⟩
  · refine ⟨some ⟨g, 0, none⟩, cap, rfl, h3, ⟨by simpa using hm, fun i hi => ?_⟩⟩
    have hi2 : i < M.length := by simpa using hi
    have hc := h.row.cells (g := g) rfl i ((M[i]'hi2).val) (by simp [hi2])
    rw [add_at] at hc
    obtain ⟨e1, e2, e3⟩ := h.els _ (List.getElem_mem hi2)
    refine ⟨g, 0, (M[i]'hi2).q, (M[i]'hi2).cap, rfl, ?_, ?_, e2, ?_⟩
    · simpa [LC.val] using hc
    · simpa using e1
    · have := e3 w (fun _ _ _ _ hk _ => hk)
      simpa using this
/-- A line more. -/
theorem wpList_append_fresh {ops : Array Oper} {rest : List Oper} {op : Oper} {a : Act} {Q : Exit → Act → World → Prop} (hgd : op.guard = none) (s x : Operand) (hop : op.op = .call { callee := .builtin .append, args := #[s, x], argTypes := #[39, 39] })
    {w : World} {base : Nat} {v : Value} {M : List LC} (ho : OwnF base w v M) (r : LC) (hrc : r.l.length ≤ r.cap) (hrn : r.q = none → r.cap = 0) (hrq : LOff base v.ownBlock w r.q r.l) (hl : (M.length + 1) * 24 ≤ 140737488355328) (hbase : base ≤ w.heap.size) (hs : a.eval s = v) (hx : a.eval x = .slice (some ⟨w.heap.size, 0, none⟩) 1 1)
    (h : ∀ v' w', Hid (OwnF base w' v' (M ++ [r])) → Hid ((w.alloc (.cells #[r.val] 41)).grownBy w' v.ownBlock) → wpList Try.prog ops Q rest (a.put op.dst v') w') : wpList Try.prog ops Q (op :: rest) a (w.alloc (.cells #[r.val] 41)) := by
  obtain ⟨i0, hi0, hzz0, hzz1, hzz2⟩ := info_parts infos41
  refine wpList_append_own_at _ hgd s x 39 hop base 41 i0 _ 1 24 slice39 hi0 hzz0 hzz1 hzz2 rfl (by decide) v M.length (M.map LC.val) hs (ho.row.alloc _) ⟨w.heap.size, 0, none⟩ 1 1 [r.val] hx rfl (cell_one_new w r.val 41) (by intro u hu; simp only [List.mem_cons, List.not_mem_nil, or_false] at hu; subst hu; rfl) (by unfold maxLen; omega) (by omega) (by simp; omega) ?_
  intro v' w' h1 h2 _ h4
  refine h v' w' ⟨by simpa using h1, fun y hy => ?_⟩ h2
  have hstep : ∀ {q : Option Addr} {l : List Pt}, LOff base v.ownBlock w q l → LOff base v'.ownBlock w' q l := fun hh => hh.step (fun k _ _ hne hk _ => by
    have hlt := (Array.getElem?_eq_some_iff.1 hk).1
    have hlt2 : k < (w.alloc (.cells #[r.val] 41)).heap.size := by simp; omega
    refine ⟨(h2.block k hlt2 (fun e => hne e.symm)).trans ((Below.heap_alloc _ _ _ hlt).trans hk), fun e => ?_⟩
    rcases h4 with h4 | h4
    · rw [h4] at e
      exact hne e
    · rw [h4] at e
      simp at e
      omega)
  rcases List.mem_append.1 hy with hy | hy
  · obtain ⟨e1, e2, e3⟩ := ho.els y hy
    exact ⟨e1, e2, hstep e3⟩
  · obtain rfl : y = r := by simpa using hy
    exact ⟨hrc, hrn, hstep hrq⟩
section
set_option maxHeartbeats 8000000
set_option maxRecDepth 100000
theorem ebox_new (w : World) (k a : Int) : EBox (w.alloc (.cells #[.int .i64 k, .int .i64 a] 31)) w.heap.size k a := (MapKept.heap_alloc w _).1
theorem EBox.set2 {w : World} {b : Nat} {k a : Int} (h : EBox w b k a) (k' a' : Int) : EBox ((w.setCell ⟨b, 0, none⟩ (.int .i64 k')).setCell ⟨b, 1, none⟩ (.int .i64 a')) b k' a' := by
  unfold EBox at *
  simp [World.setCell, Array.getElem?_modify, h]
theorem usOk8 : UsOk 8 := by
  intro wb w m q p cap p' cap' hw hM hQ hc hc' hml
  have hba : Below w.heap.size w (w.alloc (.cells #[.int .i64 0, .int .i64 0] 31)) := (Below.refl _ _).alloc (Nat.le_refl _) _
  have hwa : Below wb.heap.size wb (w.alloc (.cells #[.int .i64 0, .int .i64 0] 31)) := hw.trans (hba.mono hw.size)
  have heb := ebox_new w 0 0
  have hMa := hM.below hba
  have hQa := hQ.below hba
  have hsz1 : (w.alloc (.cells #[.int .i64 0, .int .i64 0] 31)).heap.size = w.heap.size + 1 := by simp
  have Hwrong : Hid (Calls Try.prog 13 #[.slice p m.length cap, .slice p' q.length cap'] (w.alloc (.cells #[.int .i64 0, .int .i64 0] 31)) fun e w' => e = .returned (.int .i64 (wrongP (argFrom q.length (m ++ [q]) 0 150))) ∧ Below (w.alloc (.cells #[.int .i64 0, .int .i64 0] 31)).heap.size (w.alloc (.cells #[.int .i64 0, .int .i64 0] 31)) w') := wrong_any (w.alloc (.cells #[.int .i64 0, .int .i64 0] 31)) m q p cap p' cap' (hMa.rebase hwa) (hQa.rebase hwa)
  have HEb : Hid (EBox (w.alloc (.cells #[.int .i64 0, .int .i64 0] 31)) w.heap.size 0 0) := heb
  have Hba : Hid (Below w.heap.size w (w.alloc (.cells #[.int .i64 0, .int .i64 0] 31))) := hba
  have Hwa : Hid (Below wb.heap.size wb (w.alloc (.cells #[.int .i64 0, .int .i64 0] 31))) := hwa
  have HM : Hid (MatAt wb (w.alloc (.cells #[.int .i64 0, .int .i64 0] 31)) p m) := hMa
  have HQ : Hid (RowAt wb (w.alloc (.cells #[.int .i64 0, .int .i64 0] 31)) p' q) := hQa
  have Hsz1 : Hid ((w.alloc (.cells #[.int .i64 0, .int .i64 0] 31)).heap.size = w.heap.size + 1) := hsz1
  have hans : usefulAns m q = ansOf m q (argFrom q.length (m ++ [q]) 0 150) := ans_eq m q
  clear hba hwa heb hMa hQa hM hQ hw hc hc' hsz1
  cases hA : argFrom q.length (m ++ [q]) 0 150 with
  | some i =>
    rw [hA] at hans Hwrong
    rw [hans]
    simp only [ansOf, wrongP] at Hwrong ⊢
    clear hans hA
    go_enter Try.func8, Try.ntmps8
    go_wp2_with fail
    generalize w.alloc (.cells #[.int .i64 0, .int .i64 0] 31) = W1 at *
    refine Calls.mono Hwrong.out ?_
    rintro e1 w1 ⟨rfl, h1⟩
    clear Hwrong
    have hi0 : (0 : Int) ≤ (i : Int) := by omega
    obtain ⟨c0, c1, c2⟩ := (EBox.below HEb.out h1).cells
    have hfr : w1.frozen? ⟨w.heap.size, 0, none⟩ = false ∧ w1.frozen? ⟨w.heap.size, 1, none⟩ = false := by
      have := EBox.below HEb.out h1
      unfold EBox at this
      constructor <;> simp [World.frozen?, this]
    obtain ⟨fz0, fz1⟩ := hfr
    have HB : Hid (Below w.heap.size w ((w1.setCell ⟨w.heap.size, 0, none⟩ (.int .i64 21)).setCell ⟨w.heap.size, 1, none⟩ (.int .i64 i))) := by
      have h2 : Below w.heap.size w w1 := Below.trans Hba.out (h1.mono (by have := Hsz1.out; omega))
      exact (h2.setCell (p := ⟨w.heap.size, 0, none⟩) (Nat.le_refl _) _).setCell (p := ⟨w.heap.size, 1, none⟩) (Nat.le_refl _) _
    have HE2 : Hid (EBox ((w1.setCell ⟨w.heap.size, 0, none⟩ (.int .i64 21)).setCell ⟨w.heap.size, 1, none⟩ (.int .i64 i)) w.heap.size 21 i) := (EBox.below HEb.out h1).set2 21 i
    clear h1 HM HQ Hwa Hba HEb
    go_wp2
    obtain ⟨r0, r1, _⟩ := HE2.out.cells
    refine bodyPost_ret (v := .tuple #[.bool false, .agg #[.int .i64 21, .int .i64 i]]) ?_ rfl ⟨rfl, HB.out⟩
    simp [results, Try.results8, go_sem, r0, r1]
  | none =>
    have hfacts : (∀ r ∈ m, r.length = q.length ∧ ∀ x ∈ r, x.good = true) ∧ (∀ x ∈ q, x.good = true) ∧ q.length ≤ 1000 ∧ PU (m.map lineP) (lineP q) (usefulF 151 m q) := by
      by_cases hq0 : q = []
      · subst hq0
        rcases arg_none (m ++ [[]]) 0 150 (by omega) hA with ⟨g1, _, _⟩ | g
        · refine ⟨fun r hr => g1 r (by simp [hr]), (fun x hx => by cases hx), by simp, ?_⟩
          cases m with
          | nil => exact PU.none _
          | cons r m =>
            have hr : r = [] := List.eq_nil_of_length_eq_zero (g1 r (by simp)).1
            have : usefulF 151 (r :: m) [] = false := by
              show usefulQ (usefulF 150) [] (r :: m) = false
              rw [usefulQ]
              simp
            rw [this]
            exact PU.all _ _ (hasNil_row.2 ⟨r, by simp, by rw [hr]; intro x hx; cases hx⟩)
        · simp at g
      · obtain ⟨g1, g2, g3, g4⟩ := arg_rect hA hq0
        exact ⟨g1.row, g2, by omega, pu_useful 151 m q g1 g2 g3 (by omega)⟩
    obtain ⟨hrows, hqg, hql, hPU⟩ := hfacts
    have Hrows : Hid (∀ r ∈ m, r.length = q.length ∧ ∀ x ∈ r, x.good = true) := hrows
    have Hqg : Hid (∀ x ∈ q, x.good = true) := hqg
    have HPU : Hid (PU (m.map lineP) (lineP q) (usefulF 151 m q)) := hPU
    rw [hA] at hans Hwrong
    rw [hans]
    simp only [ansOf, wrongP] at Hwrong ⊢
    clear hans hA hrows hqg hPU
    generalize usefulF 151 m q = U at *
    go_enter Try.func8, Try.ntmps8
    go_wp2_with fail
    generalize w.alloc (.cells #[.int .i64 0, .int .i64 0] 31) = W1 at *
    refine Calls.mono Hwrong.out ?_
    rintro e1 w1 ⟨rfl, h1⟩
    clear Hwrong
    have H1 : Hid (Below W1.heap.size W1 w1) := h1
    clear h1
    go_wp2_with fail
    go_loopg [7, 19] m.length (fun g v iv wr => ∃ (i : Nat) (M : List LC) (qq : Option Addr) (c : Nat), v = .slice qq M.length c ∧ iv = .int .i64 i ∧ i ≤ m.length ∧ g = m.length - i ∧ M.length = i ∧ Hid (OwnF W1.heap.size wr (.slice qq M.length c) M ∧ M.map (·.l) = (m.take i).map lineP ∧ Below W1.heap.size W1 wr))
    case atStart => exact ⟨0, [], none, 0, rfl, rfl, by omega, by omega, rfl, ⟨World.ownsRow_nil _ _ _ _, fun _ hx => by cases hx⟩, by simp, H1.out⟩
    case round =>
      obtain ⟨i, M, qq, c, rfl, rfl, hi1, rfl, hMi, HL⟩ := hrel
      obtain ⟨q1, q2, q3⟩ := HL.out
      have hMle : M.length ≤ i := by omega
      have HMi : Hid (M.length = i) := hMi
      clear HL hMi
      have hwr : Below wb.heap.size wb wr := Below.trans Hwa.out (q3.mono Hwa.out.size)
      by_cases hi : i < m.length
      · have hi' : (i : Int) < m.length := by omega
        obtain ⟨b2, o, z, zc, rfl, hcell, hzc, hrow⟩ := HM.out.get i hi
        have hcell' := (q3.cell (p := ⟨b2, o + i, none⟩) (World.block_lt_of_cell? _ _ hcell)).trans hcell
        have hbl := World.block_lt_of_cell? _ _ hcell'
        have Htk : Hid ((m.take (i + 1)).map lineP = (m.take i).map lineP ++ [lineP (m[i]'hi)]) := by
          unfold Hid
          rw [List.take_succ_eq_append_getElem hi, List.map_append]
          rfl
        obtain ⟨r1, r2⟩ := Hrows.out _ (List.getElem_mem hi)
        generalize m[i]'hi = r at *
        have Hcall : Hid (Calls Try.prog 14 #[.slice z r.length zc] wr fun e w' => LinePost2 r wr e w') := lineOf_any2 wb wr r r2 (by omega) z zc hwr (hrow.below q3)
        have Q1 : Hid (OwnF W1.heap.size wr (.slice qq M.length c) M) := q1
        have Q2 : Hid (M.map (·.l) = (m.take i).map lineP) := q2
        have Q3 : Hid (Below W1.heap.size W1 wr) := q3
        clear hcell hrow q1 q2 q3 r1 r2 hwr hzc
        go_wp2_with fail
        refine Calls.mono Hcall.out ?_
        clear Hcall
        rintro e2 w2 ⟨z2, c2, rfl, h2c, h2n, h2f, h2b⟩
        have hl' : trimL r.reverse = lineP r := rfl
        rw [hl'] at h2c h2f ⊢
        generalize lineP r = l' at *
        have hown := OwnF.below Q1.out h2b
        have hsz : W1.heap.size ≤ w2.heap.size := Nat.le_trans Q3.out.size h2b.size
        have hoff : LOff W1.heap.size (Value.ownBlock (.slice qq M.length c)) w2 z2 l' := h2f.off (fun k hk => (Q1.out.row.lt k hk).2) Q3.out.size
        have Q3' : Hid (Below W1.heap.size W1 w2) := Q3.out.trans (h2b.mono Q3.out.size)
        have hMl : (M.length + 1) * 24 ≤ 140737488355328 := by omega
        clear h2f h2b hl'
        go_wp2_with (at_builtin; refine wpList_append_fresh rfl _ _ rfl hown ⟨z2, c2, l'⟩ h2c h2n hoff hMl hsz rfl rfl ?_)
        intro v7 w7 ho7 hg7
        have hb7 : Below W1.heap.size W1 w7 := by
          have h1 : Below W1.heap.size W1 (w2.alloc (.cells #[LC.val ⟨z2, c2, l'⟩] 41)) := Q3'.out.alloc hsz _
          exact h1.trans (grown_below hg7.out (fun k hk => (hown.row.lt k hk).1) h1.size)
        obtain ⟨q7, c7, hv7, _⟩ := own_form ho7.out.row
        subst hv7
        have Q : Hid (OwnF W1.heap.size w7 (.slice q7 (M ++ [(⟨z2, c2, l'⟩ : LC)]).length c7) (M ++ [(⟨z2, c2, l'⟩ : LC)]) ∧ (M ++ [(⟨z2, c2, l'⟩ : LC)]).map (·.l) = (m.take (i + 1)).map lineP ∧ Below W1.heap.size W1 w7) := ⟨ho7.out, by rw [List.map_append, Q2.out, Htk.out]; rfl, hb7⟩
        have HMi2 : Hid ((M ++ [(⟨z2, c2, l'⟩ : LC)]).length = i + 1) := by
          unfold Hid
          have := HMi.out
          simp
          omega
        clear ho7 hg7 hb7 hown hoff Q1 Q2 Q3 Q3' Htk HMi
        go_wp2
        go_roundg (m.length - (i + 1))
        case measure => omega
        case rel => exact ⟨i + 1, M ++ [(⟨z2, c2, l'⟩ : LC)], q7, c7, by simp, by first | rfl | (congr 1; omega) | go_num, by omega, rfl, HMi2.out, Q.out⟩
      · have hi' : ¬ (i : Int) < m.length := by omega
        rw [List.take_of_length_le (by omega)] at q2
        have hl : M.length = (m.map lineP).length := by rw [← q2]; simp
        have Hcall : Hid (Calls Try.prog 14 #[.slice p' q.length cap'] wr fun e w' => LinePost2 q wr e w') := lineOf_any2 wb wr q Hqg.out hql p' cap' hwr (HQ.out.below q3)
        have Hfin : Hid (∀ w3 z3 c3, Below wr.heap.size wr w3 → LineAt w3 w3 z3 (lineP q) → (lineP q).length ≤ c3 → (z3 = none → c3 = 0) → Calls Try.prog 15 #[.slice qq M.length c, .slice z3 (lineP q).length c3] w3 fun e w' => e = .returned (.bool U) ∧ Below W1.heap.size W1 w') := fun w3 z3 c3 h3 hl3 hc3 hn3 => by
          have hown3 := q1.below h3
          obtain ⟨q', c', hqe, hqc, hlines⟩ := hown3.at (by unfold maxLen; have := HMi.out; omega)
          cases hqe
          rw [q2] at hlines
          have := useful_walk HPU.out w3 w3 qq c z3 c3 (Below.refl _ _) hlines hl3 hc3 hn3
          rw [hl]
          refine Calls.mono this ?_
          rintro e w4 ⟨rfl, h4⟩
          have h13 : Below W1.heap.size W1 w3 := q3.trans (h3.mono q3.size)
          exact ⟨rfl, h13.trans (h4.mono h13.size)⟩
        clear q1 q2 q3 hl hwr
        go_wp2_with fail
        refine Calls.mono Hcall.out ?_
        clear Hcall
        rintro e2 w2 ⟨z2, c2, rfl, h2c, h2n, h2f, h2b⟩
        have hl' : trimL q.reverse = lineP q := rfl
        rw [hl'] at h2c h2f ⊢
        have Hc15 : Hid (Calls Try.prog 15 #[.slice qq M.length c, .slice z2 (lineP q).length c2] w2 fun e w' => e = .returned (.bool U) ∧ Below W1.heap.size W1 w') := Hfin.out w2 z2 c2 h2b h2f.in_ h2c h2n
        clear Hfin h2f h2b h2c h2n hl' HPU
        generalize (lineP q).length = lq at *
        go_wp2_with fail
        refine Calls.mono Hc15.out ?_
        clear Hc15
        rintro e5 w5 ⟨rfl, h5⟩
        have heb5 := EBox.below HEb.out h5
        obtain ⟨c0, c1, c2⟩ := heb5.cells
        have hfr : w5.frozen? ⟨w.heap.size, 0, none⟩ = false ∧ w5.frozen? ⟨w.heap.size, 1, none⟩ = false := by
          unfold EBox at heb5
          constructor <;> simp [World.frozen?, heb5]
        obtain ⟨fz0, fz1⟩ := hfr
        have h2 : Below w.heap.size w w5 := Below.trans Hba.out (h5.mono (by have := Hsz1.out; omega))
        have HB : Hid (Below w.heap.size w ((w5.setCell ⟨w.heap.size, 0, none⟩ (.int .i64 0)).setCell ⟨w.heap.size, 1, none⟩ (.int .i64 0))) := (h2.setCell (p := ⟨w.heap.size, 0, none⟩) (Nat.le_refl _) _).setCell (p := ⟨w.heap.size, 1, none⟩) (Nat.le_refl _) _
        have HE2 : Hid (EBox ((w5.setCell ⟨w.heap.size, 0, none⟩ (.int .i64 0)).setCell ⟨w.heap.size, 1, none⟩ (.int .i64 0)) w.heap.size 0 0) := heb5.set2 0 0
        clear h5 h2 heb5
        go_wp2
        obtain ⟨r0, r1, _⟩ := HE2.out.cells
        refine bodyPost_ret (v := .tuple #[.bool U, .agg #[.int .i64 0, .int .i64 0]]) ?_ rfl ⟨rfl, HB.out⟩
        simp [results, Try.results8, go_sem, r0, r1]
end
end Go.Proofs.Ytjhfomfaddfklaa
