/-
  Pairs of types as they lie in memory; Solve up to the bounds of what may be asked.
-/
import Derived.Test.YtbgpjaniohpfaaaM1
import Derived.Test.YtbgpjaniohpfaaaK15
import Derived.Test.YtbgpjaniohpfaaaK16
namespace Go.Proofs.Ytbgpjaniohpfaaa
open Go.RowKit Go.Deep
inductive PairCells (w : World) (b o : Nat) : Ty × Ty → Prop
  | mk (k n : Int) (s : ByteArray) (e : Int) (l : List Ty) (p : Option Addr) (cap : Nat) (k' n' : Int) (s' : ByteArray) (e' : Int) (l' : List Ty) (p' : Option Addr) (cap' : Nat)
      (c0 : w.cell? ⟨b, o, none⟩ = some (.int .i64 k)) (c1 : w.cell? ⟨b, o + 1, none⟩ = some (.int .i64 n)) (c2 : w.cell? ⟨b, o + 2, none⟩ = some (.string s)) (c3 : w.cell? ⟨b, o + 3, none⟩ = some (.int .i64 e)) (c4 : w.cell? ⟨b, o + 4, none⟩ = some (.slice p l.length cap))
      (c5 : w.cell? ⟨b, o + 5, none⟩ = some (.int .i64 k')) (c6 : w.cell? ⟨b, o + 6, none⟩ = some (.int .i64 n')) (c7 : w.cell? ⟨b, o + 7, none⟩ = some (.string s')) (c8 : w.cell? ⟨b, o + 8, none⟩ = some (.int .i64 e')) (c9 : w.cell? ⟨b, o + 9, none⟩ = some (.slice p' l'.length cap'))
      (hA : TyIn w [.int .i64 k, .int .i64 n, .string s, .int .i64 e, .slice p l.length cap] (.mk k n s e l)) (hB : TyIn w [.int .i64 k', .int .i64 n', .string s', .int .i64 e', .slice p' l'.length cap'] (.mk k' n' s' e' l')) :
      PairCells w b o (.mk k n s e l, .mk k' n' s' e' l')
/-- A row of pairs. -/
structure PairsIn (w : World) (p : Option Addr) (ps : List (Ty × Ty)) : Prop where
  len : ps.length ≤ 2 ^ 63 - 1
  get : ∀ i (hi : i < ps.length), ∃ b o, p = some ⟨b, o, none⟩ ∧ b < w.heap.size ∧ PairCells w b (o + i * 10) (ps[i]'hi)
theorem info38 : (Try.prog.info? 38).map (·.size) = some 10 := by kernel_rfl
theorem MeetPost.parts {w : World} {bQ : Nat} {q : Int → Int} {V : List Int} {e' : Ending} {w' : World} (h : MeetPost w bQ q V e' w') : e' = .returned (.tuple #[]) ∧ EqAt w' bQ V.length q V ∧ Kp [bQ] w w' := by
  cases h with
  | mk a b c => exact ⟨a, b, c⟩
/-- A block that holds a fault. -/
def FBox (w : World) (b : Nat) (x y : Int) : Prop := w.heap[b]? = some (.cells #[.int .i64 x, .int .i64 y] 28)
theorem FBox.kp {X : List Nat} {w w' : World} {b : Nat} {x y : Int} (h : FBox w b x y) (hk : Kp X w w') (hb : b ∉ X) : FBox w' b x y := (hk.block b (Array.getElem?_eq_some_iff.1 h).1 hb).trans h
theorem FBox.cells {w : World} {b : Nat} {x y : Int} (h : FBox w b x y) : w.cell? ⟨b, 0, none⟩ = some (.int .i64 x) ∧ w.cell? ⟨b, 1, none⟩ = some (.int .i64 y) ∧ w.frozen? ⟨b, 0, none⟩ = false ∧ w.frozen? ⟨b, 1, none⟩ = false := by
  unfold FBox at h
  simp [World.cell?, World.frozen?, h]
theorem free_none (V : List Int) : free (fun _ => none) V = V.length := by
  show (V.filter (fun _ => true)).length = V.length
  simp
theorem ownsRow_low {w : World} {B B' : Nat} {e : TypeId} {size : Nat} {v : Value} {n : Nat} {xs : List Value} (h : w.ownsRow B e size v n xs) (hB : B' ≤ B) : w.ownsRow B' e size v n xs := by
  obtain ⟨q1, q2⟩ := h
  refine ⟨q1, ?_⟩
  rcases q2 with q2 | ⟨g, cap, cur, qv, qg, qq⟩
  · exact .inl q2
  · exact .inr ⟨g, cap, cur, qv, by omega, qq⟩
/-- How it is found that a type may not be. -/
inductive ArgPost (w : World) (ps : List (Ty × Ty)) (e' : Ending) (w' : World) : Prop
  | bad (i : Nat) (hi : i < ps.length) (h1 : ∀ j, j < i → ∀ (hj' : j < ps.length), (ps[j]'hj').1.proper = true ∧ (ps[j]'hj').2.proper = true) (h2 : ¬ ((ps[i]'hi).1.proper = true ∧ (ps[i]'hi).2.proper = true)) (he : e' = .returned (.tuple #[.slice none 0 0, .agg #[.int .i64 21, .int .i64 i]])) (hb : Below w.heap.size w w') : ArgPost w ps e' w'
/-- What Solve leaves. -/
inductive SolvePost (w : World) (ps : List (Ty × Ty)) (e' : Ending) (w' : World) : Prop
  | arg (h : ArgPost w ps e' w') : SolvePost w ps e' w'
  | fail (i : Nat) (hi : i < ps.length) (s1 s2 : St) (e : Int) (hp : ∀ p ∈ ps, p.1.proper = true ∧ p.2.proper = true) (h1 : Uni (St.start ps) (ps.take i) 0 s1) (h2 : Uni s1 [ps[i]'hi] e s2) (h0 : ¬ e = 0) (he : e' = .returned (.tuple #[.slice none 0 0, .agg #[.int .i64 e, .int .i64 i]])) (hb : Below w.heap.size w w') : SolvePost w ps e' w'
  | big (s1 : St) (x : Int) (hp : ∀ p ∈ ps, p.1.proper = true ∧ p.2.proper = true) (h1 : Uni (St.start ps) ps 0 s1) (hx : x ∈ allVars ps) (h2 : 400 < (s1.sub x).count) (he : e' = .returned (.tuple #[.slice none 0 0, .agg #[.int .i64 12, .int .i64 ps.length]])) (hb : Below w.heap.size w w') : SolvePost w ps e' w'
  | ok (s1 : St) (v : Value) (L : List (Int × List Value × Ty)) (hp : ∀ p ∈ ps, p.1.proper = true ∧ p.2.proper = true) (h1 : Uni (St.start ps) ps 0 s1) (hc : ∀ x ∈ allVars ps, (s1.sub x).count ≤ 400) (hL : L.map (fun x => (x.1, x.2.2)) = ((allVars ps).mergeSort leI).map (fun x => (x, (s1.sub x).app (mkv s1.eq)))) (he : e' = .returned (.tuple #[v, .agg #[.int .i64 0, .int .i64 0]]))
      (ho : w'.ownsRow w.heap.size 35 6 v L.length (bindRow L)) (hT : TysAt (fun b => w.heap.size ≤ b ∧ some b ≠ v.ownBlock) w' (L.map (·.2))) (hb : Below w.heap.size w w') : SolvePost w ps e' w'
set_option maxHeartbeats 4000000 in
set_option maxRecDepth 100000 in
theorem solve_any (w : World) (p : Option Addr) (cap : Nat) (ps : List (Ty × Ty)) (hP : PairsIn w p ps) (hcnt : allCount ps ≤ 1048576) :
    Calls Try.prog 7 #[.slice p ps.length cap] w fun e' w' => SolvePost w ps e' w' := by
  have hlen := hP.len
  have HP : Hid (∀ i (hi : i < ps.length), ∃ b o, p = some ⟨b, o, none⟩ ∧ b < w.heap.size ∧ PairCells w b (o + i * 10) (ps[i]'hi)) := hP.get
  have Hcnt : Hid (allCount ps ≤ 1048576) := hcnt
  clear hP hcnt
  go_enter Try.func7, Try.ntmps7
  go_wp2_with fail
  have hz0 : w.heap.size < (w.alloc (Obj.cells #[Value.int IntKind.i64 0, Value.int IntKind.i64 0] 28)).heap.size := by simp
  have hb0 : Below w.heap.size w (w.alloc (Obj.cells #[Value.int IntKind.i64 0, Value.int IntKind.i64 0] 28)) := (Below.refl _ _).alloc (Nat.le_refl _) _
  have hF0 : FBox (w.alloc (Obj.cells #[Value.int IntKind.i64 0, Value.int IntKind.i64 0] 28)) w.heap.size 0 0 := (MapKept.heap_alloc w _).1
  generalize w.alloc (Obj.cells #[Value.int IntKind.i64 0, Value.int IntKind.i64 0] 28) = w1 at *
  have HF0 : Hid (FBox w1 w.heap.size 0 0) := hF0
  clear hF0
  go_loopg [16] ps.length (fun g iv wr => ∃ (i : Nat), iv = .int .i64 i ∧ i ≤ ps.length ∧ g = ps.length - i ∧ Hid (Below w1.heap.size w1 wr ∧ ∀ j, j < i → ∀ (hj' : j < ps.length), (ps[j]'hj').1.proper = true ∧ (ps[j]'hj').2.proper = true))
  case atStart => exact ⟨0, rfl, by omega, by omega, Below.refl _ _, fun j hj => absurd hj (Nat.not_lt_zero _)⟩
  case round =>
    obtain ⟨i, rfl, hi1, rfl, HR⟩ := hrel
    by_cases hi : i < ps.length
    · have hi' : (i : Int) < ps.length := by omega
      obtain ⟨b, o, rfl, hbw, hpc⟩ := HP.out i hi
      have hbr : Below w.heap.size w wr := hb0.trans (HR.out.1.mono (Nat.le_of_lt hz0))
      have hbr' := Nat.lt_of_lt_of_le hbw hbr.size
      have hnext : ∀ A B, ps[i]'hi = (A, B) → A.proper = true → B.proper = true → ∀ j, j < i + 1 → ∀ (hj' : j < ps.length), (ps[j]'hj').1.proper = true ∧ (ps[j]'hj').2.proper = true := by
        intro A B h1 h2 h3 j hj hj'
        by_cases e : j = i
        · subst e; rw [h1]; exact ⟨h2, h3⟩
        · exact HR.out.2 j (by omega) hj'
      generalize hpi : ps[i]'hi = pr at *
      cases hpc with
      | mk k n s e l q cap1 k' n' s' e' l' q' cap' c0 c1 c2 c3 c4 c5 c6 c7 c8 c9 hA hB =>
      rw [← hbr.cell (p := ⟨b, o + i * 10, none⟩) hbw] at c0
      rw [← hbr.cell (p := ⟨b, o + i * 10 + 1, none⟩) hbw] at c1
      rw [← hbr.cell (p := ⟨b, o + i * 10 + 2, none⟩) hbw] at c2
      rw [← hbr.cell (p := ⟨b, o + i * 10 + 3, none⟩) hbw] at c3
      rw [← hbr.cell (p := ⟨b, o + i * 10 + 4, none⟩) hbw] at c4
      rw [← hbr.cell (p := ⟨b, o + i * 10 + 5, none⟩) hbw] at c5
      rw [← hbr.cell (p := ⟨b, o + i * 10 + 6, none⟩) hbw] at c6
      rw [← hbr.cell (p := ⟨b, o + i * 10 + 7, none⟩) hbw] at c7
      rw [← hbr.cell (p := ⟨b, o + i * 10 + 8, none⟩) hbw] at c8
      rw [← hbr.cell (p := ⟨b, o + i * 10 + 9, none⟩) hbw] at c9
      have Hbr : Hid (Below w.heap.size w wr) := hbr
      have HA : Hid _ := hA
      have HB : Hid _ := hB
      have Hnext : Hid _ := hnext _ _ rfl
      have Hpi : Hid (ps[i]'hi = (.mk k n s e l, .mk k' n' s' e' l')) := hpi
      clear hnext hpi hA hB hbr
      have HB1 : Hid (Below w1.heap.size w1 wr) := HR.out.1
      have HRp : Hid (∀ j, j < i → ∀ (hj' : j < ps.length), (ps[j]'hj').1.proper = true ∧ (ps[j]'hj').2.proper = true) := HR.out.2
      clear HR
      have hka : Below wr.heap.size wr (wr.alloc (Obj.cells #[.int .i64 k, .int .i64 n, .string s, .int .i64 e, .slice q l.length cap1, .int .i64 k', .int .i64 n', .string s', .int .i64 e', .slice q' l'.length cap'] 38)) := (Below.refl _ _).alloc (Nat.le_refl _) _
      have hcopy : (wr.alloc (Obj.cells #[.int .i64 k, .int .i64 n, .string s, .int .i64 e, .slice q l.length cap1, .int .i64 k', .int .i64 n', .string s', .int .i64 e', .slice q' l'.length cap'] 38)).heap[wr.heap.size]? = some (.cells #[.int .i64 k, .int .i64 n, .string s, .int .i64 e, .slice q l.length cap1, .int .i64 k', .int .i64 n', .string s', .int .i64 e', .slice q' l'.length cap'] 38) := (MapKept.heap_alloc wr _).1
      have hzc : wr.heap.size < (wr.alloc (Obj.cells #[.int .i64 k, .int .i64 n, .string s, .int .i64 e, .slice q l.length cap1, .int .i64 k', .int .i64 n', .string s', .int .i64 e', .slice q' l'.length cap'] 38)).heap.size := by simp
      have Hka : Hid _ := hka
      have Hcopy : Hid _ := hcopy
      clear hka hcopy
      go_wp2_with fail
      generalize wr.alloc (Obj.cells #[.int .i64 k, .int .i64 n, .string s, .int .i64 e, .slice q l.length cap1, .int .i64 k', .int .i64 n', .string s', .int .i64 e', .slice q' l'.length cap'] 38) = w2 at *
      refine (properP_any w w2 k n s e l q cap1 HA.out (Hbr.out.trans (Below.mono Hka.out Hbr.out.size))).mono ?_
      rintro e9 w3 ⟨rfl, hb3⟩
      have HB3 : Hid (Below w1.heap.size w1 w3) := (HB1.out.trans (Below.mono Hka.out HB1.out.size)).trans (hb3.mono (Nat.le_trans HB1.out.size (Nat.le_of_lt hzc)))
      have HW3 : Hid (Below w.heap.size w w3) := hb0.trans (HB3.out.mono (Nat.le_of_lt hz0))
      have hc3 : w3.heap[wr.heap.size]? = some (.cells #[.int .i64 k, .int .i64 n, .string s, .int .i64 e, .slice q l.length cap1, .int .i64 k', .int .i64 n', .string s', .int .i64 e', .slice q' l'.length cap'] 38) := (hb3.block _ hzc).trans Hcopy.out
      have y5 : w3.cell? ⟨wr.heap.size, 5, none⟩ = some (.int .i64 k') := by simp [World.cell?, hc3]
      have y6 : w3.cell? ⟨wr.heap.size, 6, none⟩ = some (.int .i64 n') := by simp [World.cell?, hc3]
      have y7 : w3.cell? ⟨wr.heap.size, 7, none⟩ = some (.string s') := by simp [World.cell?, hc3]
      have y8 : w3.cell? ⟨wr.heap.size, 8, none⟩ = some (.int .i64 e') := by simp [World.cell?, hc3]
      have y9 : w3.cell? ⟨wr.heap.size, 9, none⟩ = some (.slice q' l'.length cap') := by simp [World.cell?, hc3]
      obtain ⟨f0, f1, f2, f3⟩ := (HF0.out.kp (X := []) (Kp.of_below HB3.out) (by simp)).cells
      clear hb3 hc3 Hcopy Hka c0 c1 c2 c3 c4 c5 c6 c7 c8 c9
      cases hpA : (Ty.mk k n s e l).proper with
      | false =>
        have HpA : Hid ((Ty.mk k n s e l).proper = false) := hpA
        clear hpA y5 y6 y7 y8 y9
        go_wp2
        refine bodyPost_ret (v := .tuple #[.slice none 0 0, .agg #[.int .i64 21, .int .i64 i]]) (by simp [results, Try.results7, go_sem, f0, f1]) rfl (SolvePost.arg (ArgPost.bad i hi HRp.out (fun h => by rw [Hpi.out, HpA.out] at h; exact absurd h.1 (by simp)) rfl ((HW3.out.setCell (by simp) _).setCell (by simp) _)))
      | true =>
        have HpA : Hid ((Ty.mk k n s e l).proper = true) := hpA
        clear hpA
        go_wp2_with fail
        refine (properP_any w w3 k' n' s' e' l' q' cap' HB.out HW3.out).mono ?_
        rintro e9 w4 ⟨rfl, hb4⟩
        have HB4 : Hid (Below w1.heap.size w1 w4) := HB3.out.trans (hb4.mono HB3.out.size)
        have HW4 : Hid (Below w.heap.size w w4) := hb0.trans (HB4.out.mono (Nat.le_of_lt hz0))
        clear hb4 y5 y6 y7 y8 y9 f0 f1 f2 f3
        obtain ⟨f0, f1, f2, f3⟩ := (HF0.out.kp (X := []) (Kp.of_below HB4.out) (by simp)).cells
        cases hpB : (Ty.mk k' n' s' e' l').proper with
        | false =>
          have HpB : Hid ((Ty.mk k' n' s' e' l').proper = false) := hpB
          clear hpB
          go_wp2
          refine bodyPost_ret (v := .tuple #[.slice none 0 0, .agg #[.int .i64 21, .int .i64 i]]) (by simp [results, Try.results7, go_sem, f0, f1]) rfl (SolvePost.arg (ArgPost.bad i hi HRp.out (fun h => by rw [Hpi.out, HpB.out] at h; exact absurd h.2 (by simp)) rfl ((HW4.out.setCell (by simp) _).setCell (by simp) _)))
        | true =>
          have Q : Hid (Below w1.heap.size w1 w4 ∧ ∀ j, j < i + 1 → ∀ (hj' : j < ps.length), (ps[j]'hj').1.proper = true ∧ (ps[j]'hj').2.proper = true) := ⟨HB4.out, Hnext.out HpA.out hpB⟩
          clear hpB f0 f1 f2 f3
          go_wp2
          go_roundg (ps.length - (i + 1))
          case measure => omega
          case rel => exact ⟨i + 1, by first | rfl | (congr 1; omega) | go_num, by omega, rfl, Q⟩
    · have hi' : ¬ (i : Int) < ps.length := by omega
      have HB1 : Hid (Below w1.heap.size w1 wr) := HR.out.1
      have hall : ∀ pr ∈ ps, pr.1.proper = true ∧ pr.2.proper = true := by
        intro pr hpr
        obtain ⟨j, hj, rfl⟩ := List.mem_iff_getElem.1 hpr
        exact HR.out.2 j (by omega) hj
      have Hall : Hid (∀ pr ∈ ps, pr.1.proper = true ∧ pr.2.proper = true) := hall
      clear HR hall
      go_wp2_with (go_at_call 14; refine (newSolver_any _).mono ?_; rintro e9 w2 ⟨rfl, hw2⟩; have Hw2 : Hid _ := hw2; clear hw2)
      have hkN : Below wr.heap.size wr w2 := by rw [Hw2.out]; exact (((Below.refl _ _).alloc (Nat.le_refl _) _).alloc (by simp) _).alloc (by simp; omega) _
      have hM2 : MapAt w2 wr.heap.size 0 (fun _ => none) := by
        rw [Hw2.out]
        exact ((MapAt.made wr).kp (Kp.alloc [] _ _) (by simp)).kp (Kp.alloc [] _ _) (by simp)
      have hQ2 : MapAt w2 (wr.heap.size + 1) 0 (fun _ => none) := by
        rw [Hw2.out]
        have := (MapAt.made (wr.alloc (.map #[] 0))).kp (Kp.alloc [] _ (.cells #[.map (some wr.heap.size), .map (some (wr.heap.size + 1)), .int .i64 0, .int .i64 0] 53)) (by simp)
        rw [heap_size_alloc] at this
        exact this
      have hsb : w2.heap[wr.heap.size + 2]? = some (.cells #[.map (some wr.heap.size), .map (some (wr.heap.size + 1)), .int .i64 0, .int .i64 0] 53) := by
        have := (MapKept.heap_alloc ((wr.alloc (.map #[] 0)).alloc (.map #[] 0)) (.cells #[.map (some wr.heap.size), .map (some (wr.heap.size + 1)), .int .i64 0, .int .i64 0] 53)).1
        rw [heap_size_alloc, heap_size_alloc] at this
        rw [Hw2.out]
        exact this
      have hSB : SolBox w2 (wr.heap.size + 2) wr.heap.size (wr.heap.size + 1) 0 := hsb
      have hs0 : w2.cell? ⟨wr.heap.size + 2, 0, none⟩ = some (.map (some wr.heap.size)) := by simp [World.cell?, hsb]
      have hs1 : w2.cell? ⟨wr.heap.size + 2, 1, none⟩ = some (.map (some (wr.heap.size + 1))) := by simp [World.cell?, hsb]
      have hwr : w1.heap.size ≤ wr.heap.size := HB1.out.size
      have HB2 : Hid (Below w1.heap.size w1 w2) := HB1.out.trans (hkN.mono hwr)
      have HW2 : Hid (Below w.heap.size w w2) := hb0.trans (HB2.out.mono (Nat.le_of_lt hz0))
      have hEq2 : EqAt w2 (wr.heap.size + 1) (allVars []).length (allMarks []) (allVars []) := ⟨_, hQ2, fun x => ⟨rfl, rfl, .inl rfl⟩⟩
      generalize hbM : wr.heap.size = bM at *
      have HM2 : Hid _ := hM2
      have HSB : Hid (SolBox w2 (bM + 2) bM (bM + 1) 0) := hSB
      have HEq2 : Hid _ := hEq2
      have Hs0 : Hid (w2.cell? ⟨bM + 2, 0, none⟩ = some (.map (some bM))) := hs0
      have Hs1 : Hid (w2.cell? ⟨bM + 2, 1, none⟩ = some (.map (some (bM + 1)))) := hs1
      have hw1M : w1.heap.size ≤ bM := hwr
      clear hM2 hQ2 hs0 hs1 hwr hkN hbM Hw2 HB1 hEq2 hsb hSB
      go_wp2_with fail
      go_loopg [37] ps.length (fun g iv wx => ∃ (i : Nat), iv = .int .i64 i ∧ i ≤ ps.length ∧ g = ps.length - i ∧ Hid (EqAt wx (bM + 1) (allVars (ps.take i)).length (allMarks (ps.take i)) (allVars (ps.take i)) ∧ Kp [bM + 1] w2 wx))
      case atStart => exact ⟨0, rfl, by omega, by omega, by rw [List.take_zero]; exact HEq2.out, Kp.refl _ _⟩
      case round =>
        obtain ⟨i, rfl, hi1, rfl, HR⟩ := hrel
        by_cases hi : i < ps.length
        · have hi' : (i : Int) < ps.length := by omega
          obtain ⟨b, o, rfl, hbw, hpc⟩ := HP.out i hi
          obtain ⟨r1, r2⟩ := HR.out
          clear HR
          have hbr : Below w.heap.size w wr := HW2.out.trans (r2.below HW2.out.size (by simp; omega))
          have hbr' := Nat.lt_of_lt_of_le hbw hbr.size
          have hpp := Hall.out _ (List.getElem_mem hi)
          have htk : ps.take (i + 1) = ps.take i ++ [ps[i]'hi] := List.take_succ_eq_append_getElem hi
          have hcl := allCount_take ps i
          have hvl := allVars_len (ps.take i)
          have hc20 := Hcnt.out
          generalize hpi : ps[i]'hi = pr at *
          cases hpc with
          | mk k n s e l q cap1 k' n' s' e' l' q' cap' c0 c1 c2 c3 c4 c5 c6 c7 c8 c9 hA hB =>
          rw [← hbr.cell (p := ⟨b, o + i * 10, none⟩) hbw] at c0
          rw [← hbr.cell (p := ⟨b, o + i * 10 + 1, none⟩) hbw] at c1
          rw [← hbr.cell (p := ⟨b, o + i * 10 + 2, none⟩) hbw] at c2
          rw [← hbr.cell (p := ⟨b, o + i * 10 + 3, none⟩) hbw] at c3
          rw [← hbr.cell (p := ⟨b, o + i * 10 + 4, none⟩) hbw] at c4
          rw [← hbr.cell (p := ⟨b, o + i * 10 + 5, none⟩) hbw] at c5
          rw [← hbr.cell (p := ⟨b, o + i * 10 + 6, none⟩) hbw] at c6
          rw [← hbr.cell (p := ⟨b, o + i * 10 + 7, none⟩) hbw] at c7
          rw [← hbr.cell (p := ⟨b, o + i * 10 + 8, none⟩) hbw] at c8
          rw [← hbr.cell (p := ⟨b, o + i * 10 + 9, none⟩) hbw] at c9
          obtain ⟨hpA, hsA⟩ := (Ty.proper_iff _).1 hpp.1
          obtain ⟨hpB, hsB⟩ := (Ty.proper_iff _).1 hpp.2
          have hpA : (Ty.mk k n s e l).count ≤ 400 := hpA
          have hpB : (Ty.mk k' n' s' e' l').count ≤ 400 := hpB
          have hka : Kp [] wr (wr.alloc (Obj.cells #[.int .i64 k, .int .i64 n, .string s, .int .i64 e, .slice q l.length cap1, .int .i64 k', .int .i64 n', .string s', .int .i64 e', .slice q' l'.length cap'] 38)) := Kp.alloc _ _ _
          have hcopy : (wr.alloc (Obj.cells #[.int .i64 k, .int .i64 n, .string s, .int .i64 e, .slice q l.length cap1, .int .i64 k', .int .i64 n', .string s', .int .i64 e', .slice q' l'.length cap'] 38)).heap[wr.heap.size]? = some (.cells #[.int .i64 k, .int .i64 n, .string s, .int .i64 e, .slice q l.length cap1, .int .i64 k', .int .i64 n', .string s', .int .i64 e', .slice q' l'.length cap'] 38) := (MapKept.heap_alloc wr _).1
          have hzc : wr.heap.size < (wr.alloc (Obj.cells #[.int .i64 k, .int .i64 n, .string s, .int .i64 e, .slice q l.length cap1, .int .i64 k', .int .i64 n', .string s', .int .i64 e', .slice q' l'.length cap'] 38)).heap.size := by simp
          have hE1 := r1.kp hka (by simp)
          have hK1 : Kp [bM + 1] w2 (wr.alloc (Obj.cells #[.int .i64 k, .int .i64 n, .string s, .int .i64 e, .slice q l.length cap1, .int .i64 k', .int .i64 n', .string s', .int .i64 e', .slice q' l'.length cap'] 38)) := r2.trans (hka.mono (by simp))
          have hwrM : bM + 1 < wr.heap.size := r1.lt
          have hV1 : allVars (ps.take (i + 1)) = (Ty.mk k' n' s' e' l').vars ((Ty.mk k n s e l).vars (allVars (ps.take i))) := by rw [htk, allVars_snoc]
          have hQ1 : allMarks (ps.take (i + 1)) = (Ty.mk k' n' s' e' l').marks ((Ty.mk k n s e l).marks (allMarks (ps.take i))) := by rw [htk, allMarks_snoc]
          have hvA := Ty.vars_len (Ty.mk k n s e l) (allVars (ps.take i))
          have HV1 : Hid (allVars (ps.take (i + 1)) = (Ty.mk k' n' s' e' l').vars ((Ty.mk k n s e l).vars (allVars (ps.take i)))) := hV1
          have HQ1 : Hid (allMarks (ps.take (i + 1)) = (Ty.mk k' n' s' e' l').marks ((Ty.mk k n s e l).marks (allMarks (ps.take i)))) := hQ1
          have Hcopy : Hid _ := hcopy
          have HE1 : Hid _ := hE1
          have HK1 : Hid _ := hK1
          have HA : Hid _ := hA
          have HB : Hid _ := hB
          have HsA : Hid ((Ty.mk k n s e l).shaped = true) := hsA
          have HsB : Hid ((Ty.mk k' n' s' e' l').shaped = true) := hsB
          generalize allVars (ps.take i) = V0 at *
          generalize allMarks (ps.take i) = q0 at *
          clear hV1 hQ1 hcopy hE1 hK1 hA hB hsA hsB htk hpi hpp r1 r2 hbr hka
          go_upto_region 11 with fail
          generalize wr.alloc (Obj.cells #[.int .i64 k, .int .i64 n, .string s, .int .i64 e, .slice q l.length cap1, .int .i64 k', .int .i64 n', .string s', .int .i64 e', .slice q' l'.length cap'] 38) = w3 at *
          clear c0 c1 c2 c3 c4 c5 c6 c7 c8 c9
          have hW3 : Below w.heap.size w w3 := HW2.out.trans (Kp.below HK1.out HW2.out.size (by simp; omega))
          have HW3 : Hid (Below w.heap.size w w3) := hW3
          clear hW3
          go_cut [] from 41 to 48 (fun wx => Hid (EqAt wx (bM + 1) ((Ty.mk k n s e l).vars V0).length ((Ty.mk k n s e l).marks q0) ((Ty.mk k n s e l).vars V0) ∧ Kp [bM + 1] w3 wx))
          case first =>
            have hcall := each_any w (bM + 1) (by omega) (.mk k n s e l) w3.drew q0 V0 k n s e l q cap1 rfl HA.out HsA.out HW3.out.drew (EqAt.kp HE1.out (X := []) (Kp.refl _ _).drew (by simp)) (by unfold maxLen; omega)
            have Hcall : Hid _ := hcall
            have hc3 := Hcopy.out
            have x0 : w3.cell? ⟨wr.heap.size, 0, none⟩ = some (.int .i64 k) := by simp [World.cell?, hc3]
            have x1 : w3.cell? ⟨wr.heap.size, 1, none⟩ = some (.int .i64 n) := by simp [World.cell?, hc3]
            have x2 : w3.cell? ⟨wr.heap.size, 2, none⟩ = some (.string s) := by simp [World.cell?, hc3]
            have x3 : w3.cell? ⟨wr.heap.size, 3, none⟩ = some (.int .i64 e) := by simp [World.cell?, hc3]
            have x4 : w3.cell? ⟨wr.heap.size, 4, none⟩ = some (.slice q l.length cap1) := by simp [World.cell?, hc3]
            have hsp3 := Kp.cell HK1.out Hs1.out (by simp)
            clear hcall hc3
            go_region_with (go_at_call 15; refine Calls.mono Hcall.out ?_; rintro e9 w4 hp; obtain ⟨rfl, hE4, hk4⟩ := hp.parts; have HE4 : Hid _ := hE4; have Hk4 : Hid _ := hk4; clear hp hE4 hk4)
            all_goals go_wp2_with fail
            all_goals go_meet
            all_goals exact ⟨HE4.out, (Kp.refl _ _).drew.trans Hk4.out⟩
          case rest =>
            have HE4 : Hid _ := hcut.out.1
            have HK4 : Hid (Kp [bM + 1] w3 wc) := hcut.out.2
            clear hcut
            have HK4' : Hid (Kp [bM + 1] w2 wc) := Kp.trans HK1.out HK4.out
            have HW4 : Hid (Below w.heap.size w wc) := HW2.out.trans (HK4'.out.below HW2.out.size (by simp; omega))
            have hcall := each_any w (bM + 1) (by omega) (.mk k' n' s' e' l') wc.drew ((Ty.mk k n s e l).marks q0) ((Ty.mk k n s e l).vars V0) k' n' s' e' l' q' cap' rfl HB.out HsB.out HW4.out.drew (EqAt.kp HE4.out (X := []) (Kp.refl _ _).drew (by simp)) (by unfold maxLen; omega)
            rw [← HV1.out, ← HQ1.out] at hcall
            have Hcall : Hid _ := hcall
            have hc3 := (HK4.out.block wr.heap.size hzc (by simp; omega)).trans Hcopy.out
            have x0 : wc.cell? ⟨wr.heap.size, 5, none⟩ = some (.int .i64 k') := by simp [World.cell?, hc3]
            have x1 : wc.cell? ⟨wr.heap.size, 6, none⟩ = some (.int .i64 n') := by simp [World.cell?, hc3]
            have x2 : wc.cell? ⟨wr.heap.size, 7, none⟩ = some (.string s') := by simp [World.cell?, hc3]
            have x3 : wc.cell? ⟨wr.heap.size, 8, none⟩ = some (.int .i64 e') := by simp [World.cell?, hc3]
            have x4 : wc.cell? ⟨wr.heap.size, 9, none⟩ = some (.slice q' l'.length cap') := by simp [World.cell?, hc3]
            have hsp3 := Kp.cell HK4'.out Hs1.out (by simp)
            clear hcall hc3
            go_wp2_with fail
            go_region_with (go_at_call 15; refine Calls.mono Hcall.out ?_; rintro e9 w4 hp; obtain ⟨rfl, hE4, hk4⟩ := hp.parts; have HE5 : Hid _ := hE4; have Hk5 : Hid _ := hk4; clear hp hE4 hk4)
            all_goals have Q : Hid (EqAt _ (bM + 1) (allVars (ps.take (i + 1))).length (allMarks (ps.take (i + 1))) (allVars (ps.take (i + 1))) ∧ Kp [bM + 1] w2 _) := ⟨HE5.out, HK4'.out.trans ((Kp.refl _ _).drew.trans Hk5.out)⟩
            all_goals clear HE4 HK4 HK4' HW4 HK1 HE1 Hcopy HW3 HE5 Hk5 Hcall x0 x1 x2 x3 x4 hsp3
            all_goals go_wp2
            all_goals go_roundg (ps.length - (i + 1))
            all_goals first | omega | exact ⟨i + 1, by first | rfl | (congr 1; omega) | go_num, by omega, rfl, Q⟩
        · have hi' : ¬ (i : Int) < ps.length := by omega
          have r1 := HR.out.1
          have r2 := HR.out.2
          clear HR
          rw [List.take_of_length_le (by omega)] at r1
          have hvl := allVars_len ps
          have hc20 := Hcnt.out
          have hnd := nodup_allVars ps
          have hwf : ∀ x ∈ allVars ps, (Lit.int .i64 x).wf = true := by
            intro x hx
            obtain ⟨pr, hpr, hh⟩ := (mem_allVars x ps).1 hx
            obtain ⟨j, hj, rfl⟩ := List.mem_iff_getElem.1 hpr
            obtain ⟨b, o, _, _, hpc⟩ := HP.out j hj
            generalize ps[j]'hj = pr at *
            cases hpc with
            | mk k n s e l q cap1 k' n' s' e' l' q' cap' c0 c1 c2 c3 c4 c5 c6 c7 c8 c9 hA hB =>
            rcases hh with hh | hh
            · exact hA.var_wf x hh
            · exact hB.var_wf x hh
          have hmemV : ∀ pr ∈ ps, Over (allVars ps) Ty.vr pr.1 ∧ Over (allVars ps) Ty.vr pr.2 := by
            intro pr hpr
            refine ⟨fun y hy => ?_, fun y hy => ?_⟩
            · rw [Ty.hasV_vr_app] at hy
              exact (mem_allVars y ps).2 ⟨pr, hpr, .inl hy⟩
            · rw [Ty.hasV_vr_app] at hy
              exact (mem_allVars y ps).2 ⟨pr, hpr, .inr hy⟩
          have hq01 : ∀ x, 0 ≤ allMarks ps x := by
            intro x
            obtain ⟨G, _, hG⟩ := r1
            rcases (hG x).2.2 with h | h <;> omega
          have hSq : Sq (marksOf (allMarks ps)) w wr (bM + 2) bM (bM + 1) 0 (allVars ps).length (fun _ => none) Ty.vr (allMarks ps) (allVars ps) :=
            ⟨⟨HW2.out.trans (r2.below HW2.out.size (by simp; omega)), r2.cell Hs0.out (by simp), ⟨⟨_, MapAt.kp HM2.out r2 (by simp), fun x => .inl ⟨rfl, rfl⟩⟩, [], Nat.le_refl _, fun x hx => by cases hx⟩, Agr.none, ⟨by omega, by omega⟩, by decide⟩, r2.cell Hs1.out (by simp), r1, ⟨by omega, by omega, by omega⟩, by unfold maxLen; omega, low_start hq01⟩
          have HSB3 : Hid (SolBox wr (bM + 2) bM (bM + 1) 0) := HSB.out.kp r2 (by simp)
          have Hokm : Hid (∀ pr ∈ ps, pr.1.okm (marksOf (allMarks ps)) ∧ pr.2.okm (marksOf (allMarks ps))) := by
            intro pr hpr
            have hss : ∀ p ∈ ps, p.1.shaped = true ∧ p.2.shaped = true := fun p hp => ⟨((Ty.proper_iff _).1 (Hall.out p hp).1).2, ((Ty.proper_iff _).1 (Hall.out p hp).2).2⟩
            exact ⟨⟨(hss pr hpr).1, (low_all ps hss pr hpr).1⟩, ⟨(hss pr hpr).2, (low_all ps hss pr hpr).2⟩⟩
          have hBal : Bal 0 (fun _ => none) (allVars ps) := ⟨by rw [free_none]; omega, hnd, by unfold maxLen; omega⟩
          have hst : St.start ps = ⟨Ty.vr, allMarks ps⟩ := rfl
          have HBal : Hid _ := hBal
          have Hwf : Hid (∀ x ∈ allVars ps, (Lit.int .i64 x).wf = true) := hwf
          have HmV : Hid (∀ pr ∈ ps, Over (allVars ps) Ty.vr pr.1 ∧ Over (allVars ps) Ty.vr pr.2) := hmemV
          have Hnd : Hid ((allVars ps).Nodup) := hnd
          have HK : Hid (Kp [bM, bM + 1, bM + 2] w2 wr) := r2.mono (by simp)
          obtain ⟨μ, hμ⟩ : ∃ μ, μ = marksOf (allMarks ps) := ⟨_, rfl⟩
          rw [← hμ] at hSq
          have Hokm2 : Hid (∀ pr ∈ ps, pr.1.okm μ ∧ pr.2.okm μ) := by rw [hμ]; exact Hokm.out
          clear Hokm hq01
          have HF2 : Hid (FBox w2 w.heap.size 0 0) := HF0.out.kp (X := []) (Kp.of_below HB2.out) (by simp)
          clear hμ
          have HSq : Hid (Sq μ w wr (bM + 2) bM (bM + 1) 0 (allVars ps).length (fun _ => none) Ty.vr (allMarks ps) (allVars ps)) := hSq
          generalize hV : allVars ps = V at *
          have HV : Hid (allVars ps = V) := hV
          clear hSq hBal hwf hmemV hnd r1 r2 hV HEq2 HM2 Hs0 Hs1
          go_wp2_with fail
          go_loopg [60] ps.length (fun g iv wx => ∃ (i : Nat), iv = .int .i64 i ∧ i ≤ ps.length ∧ g = ps.length - i ∧ Hid (∃ (s1 : St) (n1 : Nat) (M1 : Int → Option Ty) (g1 : Int), (SolBox wx (bM + 2) bM (bM + 1) g1 ∧ 0 ≤ g1 ∧ g1 ≤ n1) ∧ Uni (St.start ps) (ps.take i) 0 s1 ∧ Sq μ w wx (bM + 2) bM (bM + 1) n1 V.length M1 s1.sub s1.eq V ∧ Bal n1 M1 V ∧ Kp [bM, bM + 1, bM + 2] w2 wx))
          case atStart => exact ⟨0, rfl, by omega, by omega, St.start ps, 0, fun _ => none, 0, ⟨HSB3.out, by omega, by omega⟩, by rw [List.take_zero]; exact Uni.done _, HSq.out, HBal.out, HK.out⟩
          case round =>
            clear HSq HBal HK HSB3
            obtain ⟨i, rfl, hi1, rfl, HR⟩ := hrel
            by_cases hi : i < ps.length
            · have hi' : (i : Int) < ps.length := by omega
              obtain ⟨b, o, rfl, hbw, hpc⟩ := HP.out i hi
              obtain ⟨s1, n1, M1, g1, r0, r1, r2, r3, r4⟩ := HR.out
              clear HR
              have hbr := r2.base
              have hbr' := Nat.lt_of_lt_of_le hbw hbr.size
              have hpp := Hall.out _ (List.getElem_mem hi)
              have htk : ps.take (i + 1) = ps.take i ++ [ps[i]'hi] := List.take_succ_eq_append_getElem hi
              have hov := fun x hx => r1.over (V := V) (Agr.none.good) (fun pr hpr => HmV.out pr (List.mem_of_mem_take hpr)) x hx
              have hovi := HmV.out _ (List.getElem_mem hi)
              have hokm := Hokm2.out _ (List.getElem_mem hi)
              have hvA := hov _ hovi.1
              have hvB := hov _ hovi.2
              have hnext : ∀ (e : Int) (s2 : St), Uni s1 [ps[i]'hi] e s2 → Uni (St.start ps) (ps.take (i + 1)) e s2 := by
                intro e s2 hu
                rw [htk]
                exact r1.then rfl hu
              have hfail : ∀ (e : Int) (s2 : St) (e' : Ending) (w' : World), Uni s1 [ps[i]'hi] e s2 → ¬ e = 0 → e' = .returned (.tuple #[.slice none 0 0, .agg #[.int .i64 e, .int .i64 i]]) → Below w.heap.size w w' → SolvePost w ps e' w' := fun e s2 e' w' h1 h2 h3 h4 => SolvePost.fail i hi s1 s2 e Hall.out r1 h1 h2 h3 h4
              generalize hpi : ps[i]'hi = pr at *
              cases hpc with
              | mk k n s e l q cap1 k' n' s' e' l' q' cap' c0 c1 c2 c3 c4 c5 c6 c7 c8 c9 hA hB =>
              rw [← hbr.cell (p := ⟨b, o + i * 10, none⟩) hbw] at c0
              rw [← hbr.cell (p := ⟨b, o + i * 10 + 1, none⟩) hbw] at c1
              rw [← hbr.cell (p := ⟨b, o + i * 10 + 2, none⟩) hbw] at c2
              rw [← hbr.cell (p := ⟨b, o + i * 10 + 3, none⟩) hbw] at c3
              rw [← hbr.cell (p := ⟨b, o + i * 10 + 4, none⟩) hbw] at c4
              rw [← hbr.cell (p := ⟨b, o + i * 10 + 5, none⟩) hbw] at c5
              rw [← hbr.cell (p := ⟨b, o + i * 10 + 6, none⟩) hbw] at c6
              rw [← hbr.cell (p := ⟨b, o + i * 10 + 7, none⟩) hbw] at c7
              rw [← hbr.cell (p := ⟨b, o + i * 10 + 8, none⟩) hbw] at c8
              rw [← hbr.cell (p := ⟨b, o + i * 10 + 9, none⟩) hbw] at c9
              obtain ⟨hpA, hsA⟩ := (Ty.proper_iff _).1 hpp.1
              obtain ⟨hpB, hsB⟩ := (Ty.proper_iff _).1 hpp.2
              have hka : Kp [] wr (wr.alloc (Obj.cells #[.int .i64 k, .int .i64 n, .string s, .int .i64 e, .slice q l.length cap1, .int .i64 k', .int .i64 n', .string s', .int .i64 e', .slice q' l'.length cap'] 38)) := Kp.alloc _ _ _
              have hcall := sameW_any w (bM + 2) bM (bM + 1) V.length V _ n1 M1 s1.sub s1.eq k n s e l q cap1 k' n' s' e' l' q' cap' g1 (r0.1.kp hka (by simp)) r0.2 (r2.kp hka (by simp)) r3 hA hokm.1 (fun y hy => by simpa using hvA y hy) hB hokm.2 (fun y hy => by simpa using hvB y hy)
              have Hcall : Hid _ := hcall
              have Hnext : Hid (∀ (ez : Int) (sz : St), Uni s1 [(.mk k n s e l, .mk k' n' s' e' l')] ez sz → Uni (St.start ps) (ps.take (i + 1)) ez sz) := hnext
              have Hfail : Hid (∀ (ez : Int) (sz : St) (r : Ending) (w' : World), Uni s1 [(.mk k n s e l, .mk k' n' s' e' l')] ez sz → ¬ ez = 0 → r = .returned (.tuple #[.slice none 0 0, .agg #[.int .i64 ez, .int .i64 i]]) → Below w.heap.size w w' → SolvePost w ps r w') := hfail
              have R4 : Hid (Kp [bM, bM + 1, bM + 2] w2 (wr.alloc (Obj.cells #[.int .i64 k, .int .i64 n, .string s, .int .i64 e, .slice q l.length cap1, .int .i64 k', .int .i64 n', .string s', .int .i64 e', .slice q' l'.length cap'] 38))) := r4.trans (hka.mono (by simp))
              clear hnext hfail hcall hpA hsA hpB hsB hka hokm r1 r2 r3 r4 hA hB hov hovi hvA hvB hpp htk hpi hbr
              go_wp2_with fail
              refine Calls.mono Hcall.out ?_
              rintro e10 w7 hp
              obtain ⟨ev, rfl⟩ := hp.ret
              have hk7 : Kp [bM, bM + 1, bM + 2] w2 w7 ∧ Below w.heap.size w w7 := by
                cases hp with
                | fail ez sz h1 h2 h3 h4 h5 => exact ⟨Kp.trans R4.out h4, h5⟩
                | ok sz nz Mz gz h1 h2 h3 h4 h5 h6 h7 h8 => exact ⟨Kp.trans R4.out h6, h3.base⟩
              obtain ⟨f0, f1, f2, f3⟩ := (HF2.out.kp hk7.1 (by simp; omega)).cells
              have HK7 : Hid (Kp [bM, bM + 1, bM + 2] w2 w7) := hk7.1
              have HW7 : Hid (Below w.heap.size w w7) := hk7.2
              clear hk7 Hcall c0 c1 c2 c3 c4 c5 c6 c7 c8 c9
              cases hp with
              | fail ez sz h1 h2 h3 h4 h5 =>
                have hez : ev = ez := by injection h3 with h3; injection h3
                subst hez
                have hz : (ev != 0) = true := by simpa using h2
                have H1 : Hid _ := h1
                have H2 : Hid (¬ ev = 0) := h2
                clear h1 h2 h3 h4 h5
                go_wp2
                refine bodyPost_ret (v := .tuple #[.slice none 0 0, .agg #[.int .i64 ev, .int .i64 i]]) (by simp [results, Try.results7, go_sem, f0, f1]) rfl (Hfail.out ev sz _ _ H1.out H2.out rfl ((HW7.out.setCell (by simp) _).setCell (by simp) _))
              | ok sz nz Mz gz h1 h2 h3 h4 h5 h6 h7 h8 =>
                have hez : ev = 0 := by injection h2 with h2; injection h2
                subst hez
                have hg0 := r0.2.1
                have Q : Hid (∃ (s1 : St) (n1 : Nat) (M1 : Int → Option Ty) (g1 : Int), (SolBox w7 (bM + 2) bM (bM + 1) g1 ∧ 0 ≤ g1 ∧ g1 ≤ n1) ∧ Uni (St.start ps) (ps.take (i + 1)) 0 s1 ∧ Sq μ w w7 (bM + 2) bM (bM + 1) n1 V.length M1 s1.sub s1.eq V ∧ Bal n1 M1 V ∧ Kp [bM, bM + 1, bM + 2] w2 w7) := ⟨sz, nz, Mz, gz, ⟨h7, by have := h8.1; omega, h8.2.1⟩, Hnext.out _ _ h1, h3, h4, HK7.out⟩
                clear h1 h2 h3 h4 h5 h6 h7 h8 hg0 r0 f0 f1 f2 f3 HK7 HW7
                go_wp2
                go_roundg (ps.length - (i + 1))
                case measure => omega
                case rel => exact ⟨i + 1, by first | rfl | (congr 1; omega) | go_num, by omega, rfl, Q⟩
            · have hi' : ¬ (i : Int) < ps.length := by omega
              obtain ⟨s1, n1, M1, g1, r0, r1, r2, r3, r4⟩ := HR.out
              clear HR
              rw [List.take_of_length_le (by omega)] at r1
              have hcall := binds_any w (bM + 2) bM (bM + 1) n1 V.length s1.sub s1.eq V wr M1 r2 Hnd.out Hwf.out (by omega) (by omega)
              have Hcall : Hid _ := hcall
              have R1 : Hid (Uni (St.start ps) ps 0 s1) := r1
              have R4 : Hid (Kp [bM, bM + 1, bM + 2] w2 wr) := r4
              have hwz : w.heap.size < wr.heap.size := by have := r2.lt; omega
              clear hcall r0 r1 r2 r3 r4
              go_wp2_with fail
              refine Calls.mono Hcall.out ?_
              rintro e10 w7 hp
              cases hp with
              | big x hx hb he hk hw =>
                subst he
                have HK7 : Hid (Kp [bM, bM + 1, bM + 2] w2 w7) := R4.out.trans (hk.mono (by simp))
                obtain ⟨f0, f1, f2, f3⟩ := (HF2.out.kp HK7.out (by simp; omega)).cells
                have HW7 : Hid (Below w.heap.size w w7) := hw
                have Hx : Hid (x ∈ V) := hx
                have Hb : Hid (400 < (s1.sub x).count) := hb
                clear hk hw hx hb Hcall
                go_wp2
                refine bodyPost_ret (v := .tuple #[.slice none 0 0, .agg #[.int .i64 12, .int .i64 ps.length]]) (by simp [results, Try.results7, go_sem, f0, f1]) rfl (SolvePost.big s1 x Hall.out R1.out (by rw [HV.out]; exact Hx.out) Hb.out rfl ((HW7.out.setCell (by simp) _).setCell (by simp) _))
              | ok v L he hL hc ho hT hk hw =>
                subst he
                have HK7 : Hid (Kp [bM, bM + 1, bM + 2] w2 w7) := R4.out.trans (hk.mono (by simp))
                obtain ⟨f0, f1, f2, f3⟩ := (HF2.out.kp HK7.out (by simp; omega)).cells
                have HW7 : Hid (Below w.heap.size w w7) := hw
                have HL : Hid _ := hL
                have Hc : Hid (∀ x ∈ V, (s1.sub x).count ≤ 400) := hc
                have Ho : Hid (w7.ownsRow wr.heap.size 35 6 v L.length (bindRow L)) := ho
                have HT : Hid (TysAt (fun b => wr.heap.size ≤ b ∧ some b ≠ v.ownBlock) w7 (L.map (·.2))) := hT
                clear hk hw hL hc ho hT Hcall
                go_wp2
                refine bodyPost_ret (v := .tuple #[v, .agg #[.int .i64 0, .int .i64 0]]) (by simp [results, Try.results7, go_sem, f0, f1]) rfl (SolvePost.ok s1 v L Hall.out R1.out (by rw [HV.out]; exact Hc.out) (by rw [HV.out]; exact HL.out) rfl ?_ ?_ ((HW7.out.setCell (by simp) _).setCell (by simp) _))
                · refine ownsRow_low (ownsRow.kp Ho.out ((Kp.setCell (X := [w.heap.size]) w7 ⟨w.heap.size, 0, none⟩ (by simp) _).trans (Kp.setCell _ ⟨w.heap.size, 1, none⟩ (by simp) _)) (fun g hg => ?_)) (by omega)
                  have := (Ho.out.lt g hg).1
                  simp
                  omega
                · intro y hy
                  refine (HT.out y hy).keep fun b hb hlt7 => ⟨?_, by omega, hb.2⟩
                  refine ((Kp.setCell (X := [w.heap.size]) w7 ⟨w.heap.size, 0, none⟩ (by simp) _).trans (Kp.setCell _ ⟨w.heap.size, 1, none⟩ (by simp) _)).block b hlt7 ?_
                  simp
                  omega
end Go.Proofs.Ytbgpjaniohpfaaa
