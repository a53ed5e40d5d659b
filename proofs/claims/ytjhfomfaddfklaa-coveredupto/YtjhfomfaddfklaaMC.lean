/-
  The program's layer matches: how many numbers of constructors there are (numbersBelow).
-/
import Derived.Test.YtjhfomfaddfklaaV14
import Derived.Test.YtjhfomfaddfklaaShelf
import Derived.Sort.OwnSortedInts
namespace Go.Proofs.Ytjhfomfaddfklaa
open Go.RowKit Go.Deep Go.Shelf Go.Sort
/-- Does a constructor's number lie below a bound? -/
def numIn (bound : Int) (x : Pt) : Bool := decide ((bareP x).k = 6) && decide (hnum (bareP x) < bound)
def numsOf (bound : Int) (hs : List Pt) : List Int := (hs.filter (numIn bound)).map fun x => hnum (bareP x)
theorem numsOf_snoc (bound : Int) (hs : List Pt) (x : Pt) : numsOf bound (hs ++ [x]) = numsOf bound hs ++ (if numIn bound x = true then [hnum (bareP x)] else []) := by
  unfold numsOf
  rw [List.filter_append, List.map_append]
  congr 1
  by_cases h : numIn bound x = true <;> simp [h]
def leZ (x y : Int) : Bool := decide (x ≤ y)
def cntN (bound : Int) (hs : List Pt) : Nat := (Lib.compact ((numsOf bound hs).mergeSort leZ)).length
theorem infos3 : (Try.prog.info? 3).map (fun i => (i.zero, i.size, i.bytes)) = some (some (.int .i64 0), 1, 8) := by kernel_rfl
theorem slice85 : Try.prog.underlying 85 = some (.slice 3) := by kernel_rfl
section
set_option maxHeartbeats 8000000
set_option maxRecDepth 100000
/-- A row of one's own, sorted. -/
theorem sort_own (w : World) (B : Nat) (q : Option Addr) (c : Nat) (zs : List Int) (ho : w.ownsRow B 3 1 (.slice q zs.length c) zs.length (zs.map (Value.int .i64))) (hl : zs.length ≤ 100000) :
    Calls Try.prog 50 #[.slice q zs.length c] w fun e w' => e = .returned (.tuple #[]) ∧ w.grownBy w' (Value.ownBlock (.slice q zs.length c)) ∧ (∀ b o, q = some ⟨b, o, none⟩ → Holds (Value.int .i64) w' b o (zs.mergeSort leZ).toArray) := by
  rcases ho.2 with ⟨hv, h0⟩ | ⟨g, cap, cur, hv, h1, h2, h3, h4, h5, h6⟩
  · have hz : zs = [] := List.eq_nil_of_length_eq_zero h0
    subst hz
    cases hv
    have := AnyM.slices_Sort_int_none Try.sortA none 0 w
    refine Calls.mono this ?_
    rintro e w' ⟨rfl, rfl⟩
    exact ⟨rfl, ⟨rfl, rfl, rfl, Nat.le_refl _, fun _ _ _ => rfl⟩, fun b o h => by cases h⟩
  · cases hv
    have hH : Holds (Value.int .i64) w g 0 zs.toArray := holds_of_blockI h2 (by rw [Nat.mul_one] at h6; exact h6)
    have hlt : g < w.heap.size := (Array.getElem?_eq_some_iff.1 h2).1
    refine Calls.mono (AnyM.slices_Sort_int Try.sortA g 0 c zs w hH hlt (by omega)) ?_
    rintro e w' ⟨rfl, n, os, rfl⟩
    refine ⟨rfl, grownBy_sortedI _, fun b o h => ?_⟩
    cases h
    have h1 := holds_putRow (Value.int .i64) (Sort.ahead w n) g 0 zs.toArray (zs.mergeSort leZ).toArray hH (by simp)
    exact holds_grow _ _ os g 0 _ (by simpa using hlt) h1
/-- How many are left of a sorted row. -/
theorem compact_own (w : World) (q : Option Addr) (c : Nat) (zs : List Int) (hq : zs.length = 0 ∨ ∃ b, q = some ⟨b, 0, none⟩ ∧ Holds (Value.int .i64) w b 0 zs.toArray) (hc : zs.length ≤ c) (hl : zs.length ≤ 100000) :
    Calls Try.prog 51 #[.slice q zs.length c] w fun e w' => ∃ q' c', e = .returned (.slice q' (Lib.compact zs).length c') ∧ ∀ B, (∀ b, zs ≠ [] → q = some b → B ≤ b.block) → B ≤ w.heap.size → Below B w w' := by
  by_cases hz : zs = []
  · subst hz
    refine Calls.mono (AnyG.slices_Compact_int_empty Try.compactA q c w) ?_
    rintro e w' ⟨rfl, rfl⟩
    exact ⟨q, c, rfl, fun B _ _ => Below.refl _ _⟩
  · rcases hq with hq | ⟨b, rfl, hH⟩
    · exact absurd (List.eq_nil_of_length_eq_zero hq) hz
    · refine Calls.mono (AnyG.slices_Compact_int Try.compactA b 0 c zs w hH (by omega) hc) ?_
      rintro e w' ⟨rfl, n, rfl⟩
      refine ⟨some ⟨b, 0, none⟩, c, rfl, fun B hB hBs => ?_⟩
      have hg : w.grownBy (putRow (Value.int .i64) (Sort.ahead w n) b 0 (Lib.compact zs ++ List.replicate (zs.length - (Lib.compact zs).length) 0).toArray) (some b) := by
        have := grownBy_sortedI (w := w) (g := b) (n := n) (os := #[]) (Lib.compact zs ++ List.replicate (zs.length - (Lib.compact zs).length) 0).toArray
        simpa using this
      exact grown_below hg (fun k hk => by cases hk; exact hB _ hz rfl) hBs
theorem nums_any (wb w : World) (p : Option Addr) (cap : Nat) (hs : List Pt) (bound : Int) (hw : Below wb.heap.size wb w) (hp : HeadsAt wb w p hs) (hml : hs.length ≤ 1000) :
    Calls Try.prog 45 #[.int .i64 bound, .slice p hs.length cap] w fun e w' => e = .returned (.int .i64 (cntN bound hs : Int)) ∧ Below w.heap.size w w' := by
  have Hp : Hid (HeadsAt wb w p hs) := hp
  have Hw : Hid (Below wb.heap.size wb w) := hw
  clear hp hw
  go_enter Try.func45, Try.ntmps45
  go_wp2_with fail
  go_loopg [5, 10] hs.length (fun g v iv wr => ∃ (i : Nat) (zs : List Int) (q : Option Addr) (c : Nat), v = .slice q zs.length c ∧ iv = .int .i64 i ∧ i ≤ hs.length ∧ g = hs.length - i ∧ zs.length ≤ i ∧ Hid (wr.ownsRow w.heap.size 3 1 (.slice q zs.length c) zs.length (zs.map (Value.int .i64)) ∧ zs = numsOf bound (hs.take i) ∧ Below w.heap.size w wr))
  case atStart => exact ⟨0, [], none, 0, rfl, rfl, by omega, by omega, by simp, World.ownsRow_nil _ _ _ _, by simp [numsOf], Below.refl _ _⟩
  case round =>
    obtain ⟨i, zs, q, c, rfl, rfl, hi1, rfl, hLi, HL⟩ := hrel
    obtain ⟨q1, q2, q3⟩ := HL.out
    clear HL
    by_cases hi : i < hs.length
    · have hi' : (i : Int) < hs.length := by omega
      obtain ⟨b, o, v, rfl, hcell, hv⟩ := Hp.out.line.get i hi
      have hk := Hp.out.some_ _ (List.getElem_mem hi)
      have hcell' := (q3.cell (p := ⟨b, o + i, none⟩) (World.block_lt_of_cell? _ _ hcell)).trans hcell
      have hbl := World.block_lt_of_cell? _ _ hcell'
      have Htk : Hid (numsOf bound (hs.take (i + 1)) = numsOf bound (hs.take i) ++ (if numIn bound (hs[i]'hi) = true then [hnum (bareP (hs[i]'hi))] else [])) := by
        unfold Hid
        rw [List.take_succ_eq_append_getElem hi, numsOf_snoc]
      generalize hs[i]'hi = x at *
      obtain ⟨bx, rfl⟩ := hv.at_ hk
      have hwr : Below wb.heap.size wb wr := Below.trans Hw.out (q3.mono Hw.out.size)
      obtain ⟨px, cx, f0, f1, f2, f3, f4, f5, f6⟩ := hv.cells hk hwr
      have Q1 : Hid (wr.ownsRow w.heap.size 3 1 (.slice q zs.length c) zs.length (zs.map (Value.int .i64))) := q1
      have Q2 : Hid (zs = numsOf bound (hs.take i)) := q2
      have Q3 : Hid (Below w.heap.size w wr) := q3
      clear hcell hwr hv hk q1 q2 q3 f2 f3 f4 f5
      by_cases hin : numIn bound x = true
      · rw [if_pos hin] at Htk
        unfold numIn at hin
        simp only [Bool.and_eq_true, decide_eq_true_eq] at hin
        obtain ⟨n1, n2⟩ := hin
        have n1' : ((bareP x).k == 6) = true := by simpa using n1
        generalize (bareP x).k = xk at *
        generalize hnum (bareP x) = xn at *
        clear n1
        obtain ⟨i0, hi0, hzz0, hzz1, hzz2⟩ := info_parts infos3
        have hrow := Q1.out
        have hsz : w.heap.size ≤ wr.heap.size := Q3.out.size
        go_wp2_with (at_builtin; refine wpList_append_own_at _ rfl _ _ 85 rfl w.heap.size 3 i0 (.int .i64 0) 1 8 slice85 hi0 hzz0 hzz1 hzz2 rfl (by decide) (.slice q zs.length c) zs.length (zs.map (Value.int .i64)) rfl (hrow.alloc _) ⟨wr.heap.size, 0, none⟩ 1 1 [.int .i64 xn] rfl rfl (cell_one_new wr _ 3) (by intro u hu; simp only [List.mem_cons, List.not_mem_nil, or_false] at hu; subst hu; rfl) (by unfold maxLen; omega) (by omega) (by simp; omega) ?_)
        intro v7 w7 ho7 hg7 _ _
        obtain ⟨g7, c7, rfl⟩ := ownsRow_succ ho7
        have hb7 : Below w.heap.size w w7 := by
          have h1 : Below w.heap.size w (wr.alloc (.cells #[.int .i64 xn] 3)) := Q3.out.alloc hsz _
          exact h1.trans (grown_below hg7 (fun k hk => (hrow.lt k hk).1) h1.size)
        have Q : Hid (w7.ownsRow w.heap.size 3 1 (.slice (some ⟨g7, 0, none⟩) (zs ++ [xn]).length c7) (zs ++ [xn]).length ((zs ++ [xn]).map (Value.int .i64)) ∧ zs ++ [xn] = numsOf bound (hs.take (i + 1)) ∧ Below w.heap.size w w7) := ⟨by simpa using ho7, by rw [Htk.out, ← Q2.out], hb7⟩
        clear ho7 hg7 hb7 hrow Q1 Q2 Q3 Htk
        go_wp2
        go_roundg (hs.length - (i + 1))
        case measure => omega
        case rel => exact ⟨i + 1, zs ++ [xn], some ⟨g7, 0, none⟩, c7, by simp, by first | rfl | (congr 1; omega) | go_num, by omega, rfl, by simp; omega, Q.out⟩
      · rw [if_neg hin, List.append_nil] at Htk
        have Q : Hid (wr.ownsRow w.heap.size 3 1 (.slice q zs.length c) zs.length (zs.map (Value.int .i64)) ∧ zs = numsOf bound (hs.take (i + 1)) ∧ Below w.heap.size w wr) := ⟨Q1.out, by rw [Htk.out]; exact Q2.out, Q3.out⟩
        unfold numIn at hin
        simp only [Bool.and_eq_true, decide_eq_true_eq] at hin
        clear Q1 Q2 Q3 Htk
        generalize (bareP x).k = xk at *
        generalize hnum (bareP x) = xn at *
        by_cases n1 : xk = 6
        · have n1' : (xk == 6) = true := by simpa using n1
          have n2 : ¬ xn < bound := fun h => hin ⟨n1, h⟩
          clear n1 hin
          go_wp2
          go_roundg (hs.length - (i + 1))
          case measure => omega
          case rel => exact ⟨i + 1, zs, q, c, rfl, by first | rfl | (congr 1; omega) | go_num, by omega, rfl, by omega, Q.out⟩
        · have n1' : (xk == 6) = false := by simpa using n1
          clear n1 hin
          go_wp2
          go_roundg (hs.length - (i + 1))
          case measure => omega
          case rel => exact ⟨i + 1, zs, q, c, rfl, by first | rfl | (congr 1; omega) | go_num, by omega, rfl, by omega, Q.out⟩
    · have hi' : ¬ (i : Int) < hs.length := by omega
      rw [List.take_of_length_le (by omega)] at q2
      have Hcall : Hid _ := sort_own wr w.heap.size q c zs q1 (by omega)
      obtain ⟨q0, c0, hqe, hqc, hqn, hqb⟩ := own_form q1
      cases hqe
      have Hc2 : Hid (∀ w3, wr.grownBy w3 (Value.ownBlock (.slice q zs.length c)) → (∀ b o, q = some ⟨b, o, none⟩ → Holds (Value.int .i64) w3 b o (zs.mergeSort leZ).toArray) → Below w.heap.size w w3 ∧ Calls Try.prog 51 #[.slice q zs.length c] w3 fun e w' => ∃ q' c', e = .returned (.slice q' (cntN bound hs) c') ∧ Below w.heap.size w w') := fun w3 hg3 hh3 => by
        have hb3 : Below w.heap.size w w3 := q3.trans (grown_below hg3 (fun k hk => (q1.lt k hk).1) q3.size)
        refine ⟨hb3, ?_⟩
        have hcall := compact_own w3 q c (zs.mergeSort leZ) (by
          by_cases hz : zs.length = 0
          · exact Or.inl (by simpa using hz)
          · right
            rcases q1.2 with ⟨hv, h0⟩ | ⟨g, cap, cur, hv, _⟩
            · exact absurd h0 hz
            · cases hv
              exact ⟨g, rfl, hh3 g 0 rfl⟩) (by simpa using hqc) (by simp; omega)
        rw [List.length_mergeSort] at hcall
        refine Calls.mono hcall ?_
        rintro e w' ⟨q', c', rfl, hbb⟩
        refine ⟨q', c', by unfold cntN; rw [q2], hb3.trans (hbb w.heap.size (fun b _ hb => (hqb b hb).1) hb3.size)⟩
      clear q1 q2 q3 hqc hqn hqb
      go_wp2_with fail
      refine Calls.mono Hcall.out ?_
      rintro e3 w3 ⟨rfl, hg3, hh3⟩
      obtain ⟨hb3, Hc3⟩ := Hc2.out w3 hg3 hh3
      clear hg3 hh3 Hc2 Hcall
      go_wp2_with fail
      refine Calls.mono Hc3 ?_
      rintro e4 w4 ⟨q', c', rfl, hb4⟩
      clear Hc3
      go_wp2
      go_ret
      exact ⟨rfl, hb4⟩
end
end Go.Proofs.Ytjhfomfaddfklaa
namespace Go.Proofs.Ytjhfomfaddfklaa
open Go.RowKit Go.Deep Go.Shelf
/-- Does each value begin with one of the heads? -/
def areAllL : List Pt → Bool
  | [] => false
  | x :: r => if (bareP x).k = 5 then true else if (bareP x).k = 6 then decide ((cntN (bareP x).o (x :: r) : Int) = (bareP x).o) else false
/-- The rests of the lines that ask for nothing first. -/
def restsL : List (List Pt) → List (List Pt)
  | [] => []
  | l :: m => if (firstL l).isNone = true then l.dropLast :: restsL m else restsL m
theorem restsL_snoc (m : List (List Pt)) (l : List Pt) : restsL (m ++ [l]) = restsL m ++ (if (firstL l).isNone = true then [l.dropLast] else []) := by
  induction m with
  | nil =>
    rw [List.nil_append, restsL]
    split <;> simp_all [restsL]
  | cons y m ih =>
    rw [List.cons_append, restsL, restsL, ih]
    split <;> simp
inductive LinesPost (wb : World) (R : List (List Pt)) (w : World) (e : Ending) (w' : World) : Prop
  | mk (q : Option Addr) (cap : Nat) (he : e = .returned (.slice q R.length cap)) (hR : LinesAt wb w' q R) (hb : Below w.heap.size w w') : LinesPost wb R w e w'
section
set_option maxHeartbeats 8000000
set_option maxRecDepth 100000
theorem restsAny_any (wb w : World) (p : Option Addr) (cap : Nat) (m : List (List Pt)) (hp : LinesAt wb w p m) (hml : m.length ≤ 1000) :
    Calls Try.prog 31 #[.slice p m.length cap] w fun e w' => LinesPost wb (restsL m) w e w' := by
  have Hp : Hid (LinesAt wb w p m) := hp
  clear hp
  go_enter Try.func31, Try.ntmps31
  go_wp2_with fail
  go_loopg [3, 8] m.length (fun g v iv wr => ∃ (i : Nat) (M : List LC) (q : Option Addr) (c : Nat), v = .slice q M.length c ∧ iv = .int .i64 i ∧ i ≤ m.length ∧ g = m.length - i ∧ M.length ≤ i ∧ Hid (OwnL wb wr w.heap.size (.slice q M.length c) M ∧ M.map (·.l) = restsL (m.take i) ∧ Below w.heap.size w wr))
  case atStart => exact ⟨0, [], none, 0, rfl, rfl, by omega, by omega, by simp, OwnL.nil _ _ _, by simp [restsL], Below.refl _ _⟩
  case round =>
    obtain ⟨i, M, q, c, rfl, rfl, hi1, rfl, hLi, HL⟩ := hrel
    obtain ⟨q1, q2, q3⟩ := HL.out
    clear HL
    by_cases hi : i < m.length
    · have hi' : (i : Int) < m.length := by omega
      obtain ⟨b, o, z, zc, rfl, hcell, hzc, hzn, hline⟩ := Hp.out.get i hi
      have hcell' := (q3.cell (p := ⟨b, o + i, none⟩) (World.block_lt_of_cell? _ _ hcell)).trans hcell
      have hbl := World.block_lt_of_cell? _ _ hcell'
      have Htk : Hid (restsL (m.take (i + 1)) = restsL (m.take i) ++ (if (firstL (m[i]'hi)).isNone = true then [(m[i]'hi).dropLast] else [])) := by
        unfold Hid
        rw [List.take_succ_eq_append_getElem hi, restsL_snoc]
      generalize m[i]'hi = r at *
      have Hcall : Hid _ := first_any wb wr z zc r (hline.below q3)
      have Hrest : Hid (Calls Try.prog 32 #[.slice z r.length zc] wr fun e w' => Restl2 wb wr z r e w') := restl_any2 wb wr z zc r (hline.below q3) hzc hzn
      have hold : r.dropLast ≠ [] → ∀ b, z = some b → b.block < w.heap.size := fun hne b hb => hline.lt (fun e => by rw [e] at hne; exact hne rfl) b hb
      have Q1 : Hid (OwnL wb wr w.heap.size (.slice q M.length c) M) := q1
      have Q2 : Hid (M.map (·.l) = restsL (m.take i)) := q2
      have Q3 : Hid (Below w.heap.size w wr) := q3
      clear hcell q1 q2 q3 hzn
      go_upto_region 6 with (go_at_call 27; refine Calls.mono Hcall.out ?_; clear Hcall; rintro e2 w2 (⟨rfl, rfl, hf⟩ | ⟨bx, x, rfl, rfl, hf, hx⟩))
      · rw [hf] at Htk
        simp only [Option.isNone_none, if_true] at Htk
        go_wp2_with fail
        refine Calls.mono Hrest.out ?_
        rintro e9 w3 ⟨z2c, rfl, h2c, _, h2n, h2R, rfl⟩
        clear Hrest
        have hown := Q1.out
        have hsz : w.heap.size ≤ w3.heap.size := Q3.out.size
        have hsep : r.dropLast ≠ [] → ∀ b, z = some b → Value.ownBlock (.slice q M.length c) ≠ some b.block ∧ b.block < w3.heap.size := fun hne b hb => by
          have h1 := hold hne b hb
          exact ⟨fun e => by have := (hown.row.lt _ e).1; omega, by omega⟩
        have hdl : Hid (r.dropLast.length = r.dropLast.length) := rfl
        clear hold hline
        generalize r.dropLast = rd at *
        have hMl : (M.length + 1) * 24 ≤ 140737488355328 := by omega
        go_wp2_with (at_builtin; refine wpList_append_line rfl _ _ rfl hown ⟨z, z2c, rd⟩ h2R h2c h2n hsep hMl hsz rfl rfl ?_)
        intro v7 w7 ho7 hg7
        have hb7 : Below w.heap.size w w7 := by
          have h1 : Below w.heap.size w (w3.alloc (.cells #[LC.val ⟨z, z2c, rd⟩] 41)) := Q3.out.alloc hsz _
          exact h1.trans (grown_below hg7.out (fun k hk => (hown.row.lt k hk).1) h1.size)
        obtain ⟨q7, c7, hv7, _⟩ := own_form ho7.out.row
        subst hv7
        have Q : Hid (OwnL wb w7 w.heap.size (.slice q7 (M ++ [(⟨z, z2c, rd⟩ : LC)]).length c7) (M ++ [(⟨z, z2c, rd⟩ : LC)]) ∧ (M ++ [(⟨z, z2c, rd⟩ : LC)]).map (·.l) = restsL (m.take (i + 1)) ∧ Below w.heap.size w w7) := ⟨ho7.out, by rw [List.map_append, Q2.out, Htk.out]; rfl, hb7⟩
        clear ho7 hg7 hb7 hown h2R hsep Q1 Q2 Q3 Htk
        go_wp2
        go_roundg (m.length - (i + 1))
        case measure => omega
        case rel => exact ⟨i + 1, M ++ [(⟨z, z2c, rd⟩ : LC)], q7, c7, by simp, by first | rfl | (congr 1; omega) | go_num, by omega, rfl, by simp; omega, Q.out⟩
      · rw [hf] at Htk
        simp only [Option.isNone_some, Bool.false_eq_true, if_false, List.append_nil] at Htk
        have Q : Hid (OwnL wb w2 w.heap.size (.slice q M.length c) M ∧ M.map (·.l) = restsL (m.take (i + 1)) ∧ Below w.heap.size w w2) := ⟨Q1.out, by rw [Htk.out]; exact Q2.out, Q3.out⟩
        clear Q1 Q2 Q3 Htk hx Hrest
        go_roundg (m.length - (i + 1))
        case measure => omega
        case rel => exact ⟨i + 1, M, q, c, rfl, by first | rfl | (congr 1; omega) | go_num, by omega, rfl, by omega, Q.out⟩
    · have hi' : ¬ (i : Int) < m.length := by omega
      rw [List.take_of_length_le (by omega)] at q2
      obtain ⟨q', c', hqe, hqc, hlines⟩ := q1.at (by unfold maxLen; omega)
      cases hqe
      have hl : M.length = (restsL m).length := by rw [← q2]; simp
      rw [q2] at hlines
      have Q : Hid (LinesPost wb (restsL m) w (.returned (.slice q M.length c)) wr) := LinesPost.mk q c (by rw [hl]) hlines q3
      clear q1 q2 q3 hlines hl
      go_wp2
      go_ret
      exact Q.out
end
end Go.Proofs.Ytjhfomfaddfklaa
