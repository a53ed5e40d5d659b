/-
  The law's step, whole.
-/
import Derived.Test.YtfeopoamednidaaS10
import Derived.ChangeSame
import Derived.ChangeArms
namespace Go.Proofs.Ytfeopoamednidaa
open Go.RowKit Go.Deep Go.IntWalk
theorem beq_no {a b : Int} (h : a ≠ b) : (a == b) = false := by simpa using h
theorem step_any (B : Nat) (w : World) (wb hp hd base : Nat) (cells : Int) (S : Nat) (first : Int) (v : Value) (ts : List Th) (vp : Value) (ps : List Cl) (vq : Value) (qs : List Cl) (next : Int) (D : Doc) (mp : Option Nat) (q : Int → Option Addr) (ks : List Int) (R : Int → Int → Prop) (h : Jt B w wb hp hd base cells S first v ts vp ps vq qs next D mp q ks R) (hS : S + 1 ≤ 3000000000000) (k oa ob oc : Int) (pl : Option Addr) (ls : List Int) (lc : Nat) (hls : RowI B w pl ls) (ha : (Lit.int .i64 oa).wf = true) (hb : (Lit.int .i64 ob).wf = true) (hc : (Lit.int .i64 oc).wf = true) :
    Calls Try.prog 5 #[.pointer (some ⟨wb, 0, none⟩), .agg #[.int .i64 k, .int .i64 oa, .int .i64 ob, .int .i64 oc, .slice pl ls.length lc]] w fun e w' => StepPost B w wb hp hd base cells S e w' := by
  by_cases h1 : k = 1
  · subst h1
    exact step_make B w wb hp hd base cells S first v ts vp ps vq qs next D mp q ks R h hS oa ob oc pl ls lc hls ha hb hc
  by_cases h6 : k = 6
  · subst h6
    exact step_wide B w wb hp hd base cells S first v ts vp ps vq qs next D mp q ks R h hS oa ob oc pl ls lc hls
  by_cases h5 : k = 5
  · subst h5
    exact step_collect B w wb hp hd base cells S first v ts vp ps vq qs next D mp q ks R h hS oa ob oc _
  by_cases hn : ps = []
  · subst hn
    exact step_none B w wb hp hd base cells S first v ts vp vq qs next D mp q ks R h hS k oa ob oc _ (beq_no h1) (beq_no h6) (beq_no h5)
  have hn : 0 < ps.length := List.length_pos_iff.2 hn
  by_cases h4 : k = 4
  · subst h4
    exact step_drop B w wb hp hd base cells S first v ts vp ps vq qs next D mp q ks R h hS oa ob oc _ hn ha
  have hj := pickN_lt oa hn
  have hk : pickN oa ps.length < qs.length := by rw [← h.iso.roots.len]; exact hj
  by_cases hz : ∀ (hj : pickN oa ps.length < ps.length) (hk : pickN oa ps.length < qs.length), (ps[pickN oa ps.length]'hj).p = true → ∀ u, D (qs[pickN oa ps.length]'hk).n = some u → u.fs = []
  · exact step_skip B w wb hp hd base cells S first v ts vp ps vq qs next D mp q ks R h hS k oa ob oc _ hn ha (beq_no h1) (beq_no h6) (beq_no h5) (beq_no h4) hz
  have hz : ∃ (hj : pickN oa ps.length < ps.length) (hk : pickN oa ps.length < qs.length), (ps[pickN oa ps.length]'hj).p = true ∧ ∃ u, D (qs[pickN oa ps.length]'hk).n = some u ∧ 0 < u.fs.length := by
    refine ⟨hj, hk, ?_⟩
    apply Classical.byContradiction
    intro hno
    refine hz (fun _ _ h1 u hu => ?_)
    apply Classical.byContradiction
    intro h0
    exact hno ⟨h1, u, hu, List.length_pos_iff.2 h0⟩
  by_cases h2 : k = 2
  · subst h2
    exact step_set B w wb hp hd base cells S first v ts vp ps vq qs next D mp q ks R h hS oa ob oc _ hn ha hc hb hz
  by_cases h3 : k = 3
  · subst h3
    exact step_get B w wb hp hd base cells S first v ts vp ps vq qs next D mp q ks R h hS oa ob oc _ hn ha hb hz
  exact step_other B w wb hp hd base cells S first v ts vp ps vq qs next D mp q ks R h hS k oa ob oc _ hn ha (beq_no h1) (beq_no h6) (beq_no h5) (beq_no h4) (beq_no h2) (beq_no h3) hb hz
end Go.Proofs.Ytfeopoamednidaa
namespace Go.Proofs.Ytfeopoamednidaa
open Go.RowKit Go.Deep Go.IntWalk
/-- A step of a script, as it came in. -/
structure Opx where
  k : Int
  a : Int
  b : Int
  c : Int
  pl : Option Addr
  ls : List Int
  lc : Nat
/-- A script in memory. -/
structure RowO (B : Nat) (w : World) (p : Option Addr) (l : List Opx) : Prop where
  get : ∀ i (hi : i < l.length), ∃ b o, p = some ⟨b, o, none⟩ ∧ b < B ∧ (w.cell? ⟨b, o + i * 5, none⟩ = some (.int .i64 (l[i]'hi).k) ∧ w.cell? ⟨b, o + i * 5 + 1, none⟩ = some (.int .i64 (l[i]'hi).a) ∧ w.cell? ⟨b, o + i * 5 + 2, none⟩ = some (.int .i64 (l[i]'hi).b) ∧ w.cell? ⟨b, o + i * 5 + 3, none⟩ = some (.int .i64 (l[i]'hi).c) ∧ w.cell? ⟨b, o + i * 5 + 4, none⟩ = some (.slice (l[i]'hi).pl (l[i]'hi).ls.length (l[i]'hi).lc)) ∧ (Lit.int .i64 (l[i]'hi).a).wf = true ∧ (Lit.int .i64 (l[i]'hi).b).wf = true ∧ (Lit.int .i64 (l[i]'hi).c).wf = true ∧ RowI B w (l[i]'hi).pl (l[i]'hi).ls
inductive LJ (B : Nat) (w : World) (wb hp hd base : Nat) (cells : Int) (S : Nat) (wr : World) : Prop
  | mk (first : Int) (v : Value) (ts : List Th) (vp : Value) (ps : List Cl) (vq : Value) (qs : List Cl) (next : Int) (D : Doc) (mp : Option Nat) (q : Int → Option Addr) (ks : List Int) (R : Int → Int → Prop) (h : Jt B wr wb hp hd base cells S first v ts vp ps vq qs next D mp q ks R) (hb : Below B w wr) : LJ B w wb hp hd base cells S wr
section
set_option maxHeartbeats 8000000
set_option maxRecDepth 100000
theorem heaps_any (w : World) (cells : Int) (p : Option Addr) (cap : Nat) (l : List Opx) (hl : l.length ≤ 3000000000000) (hr : RowO w.heap.size w p l) :
    Calls Try.prog 3 #[.int .i64 cells, .slice p l.length cap] w fun e w' => e = .returned (.bool true) ∧ Below w.heap.size w w' := by
  by_cases hc : cells < 0 ∨ 1000000 < cells
  · have Hnew : Hid _ := new_no w cells hc
    clear hr hl
    by_cases h1 : cells < 0
    · go_enter Try.func3, Try.ntmps3
      go_wp2_with fail
      refine Calls.mono Hnew.out ?_
      rintro e w ⟨rfl, rfl⟩
      go_wp2_with fail
      exact bodyPost_ret (by simp [results, Try.results3, go_sem]) rfl ⟨rfl, Below.refl _ _⟩
    · have h2 : 1000000 < cells := by omega
      go_enter Try.func3, Try.ntmps3
      go_wp2_with fail
      refine Calls.mono Hnew.out ?_
      rintro e w ⟨rfl, rfl⟩
      go_wp2_with fail
      exact bodyPost_ret (by simp [results, Try.results3, go_sem]) rfl ⟨rfl, Below.refl _ _⟩
  · have hc0 : 0 ≤ cells ∧ cells ≤ 1000000 := by omega
    have h1 : ¬ (cells < 0) := by omega
    have h2 : ¬ (1000000 < cells) := by omega
    have Hnew : Hid _ := new_any w cells hc0
    have HR : Hid (RowO w.heap.size w p l) := hr
    clear hr hc
    have HS : Hid (LJ w.heap.size w (w.heap.size + 2) w.heap.size (w.heap.size + 1) (w.heap.size + 3) cells 0 (((w.alloc (.cells #[.int .i64 cells, .int .i64 1, .slice none 0 0] 43)).alloc (.cells #[.int .i64 cells, .map none, .int .i64 0] 31)).alloc (.cells #[.pointer (some ⟨w.heap.size, 0, none⟩), .pointer (some ⟨w.heap.size + 1, 0, none⟩), .slice none 0 0, .slice none 0 0] 34))) := by
      have hk : Kp [] w (((w.alloc (.cells #[.int .i64 cells, .int .i64 1, .slice none 0 0] 43)).alloc (.cells #[.int .i64 cells, .map none, .int .i64 0] 31)).alloc (.cells #[.pointer (some ⟨w.heap.size, 0, none⟩), .pointer (some ⟨w.heap.size + 1, 0, none⟩), .slice none 0 0, .slice none 0 0] 34)) := ((Kp.alloc [] _ _).trans (Kp.alloc [] _ _)).trans (Kp.alloc [] _ _)
      refine LJ.mk _ _ _ _ _ _ _ _ _ _ _ _ _ (Jt.start hc0 ?_ ?_ ?_ (by omega) (by omega) (by simp)) (hk.below (Nat.le_refl _) (by simp))
      · have := alloc_get ((w.alloc (.cells #[.int .i64 cells, .int .i64 1, .slice none 0 0] 43)).alloc (.cells #[.int .i64 cells, .map none, .int .i64 0] 31)) (.cells #[.pointer (some ⟨w.heap.size, 0, none⟩), .pointer (some ⟨w.heap.size + 1, 0, none⟩), .slice none 0 0, .slice none 0 0] 34)
        simpa [World.size_alloc] using this
      · exact (Below.heap_alloc _ _ _ (by simp; omega)).trans ((Below.heap_alloc _ _ _ (by simp)).trans (alloc_get w _))
      · have := alloc_get (w.alloc (.cells #[.int .i64 cells, .int .i64 1, .slice none 0 0] 43)) (.cells #[.int .i64 cells, .map none, .int .i64 0] 31)
        rw [World.size_alloc] at this
        exact (Below.heap_alloc _ _ _ (by simp)).trans this
    go_enter Try.func3, Try.ntmps3
    go_wp2_with fail
    refine Calls.mono Hnew.out ?_
    rintro e w1 ⟨rfl, rfl⟩
    clear Hnew
    go_wp2_with fail
    generalize ((w.alloc (.cells #[.int .i64 cells, .int .i64 1, .slice none 0 0] 43)).alloc (.cells #[.int .i64 cells, .map none, .int .i64 0] 31)).alloc (.cells #[.pointer (some ⟨w.heap.size, 0, none⟩), .pointer (some ⟨w.heap.size + 1, 0, none⟩), .slice none 0 0, .slice none 0 0] 34) = w2 at *
    go_loopg [8] l.length (fun g iv wr => ∃ (i : Nat), iv = .int .i64 (i : Nat) ∧ i ≤ l.length ∧ g = l.length - i ∧ Hid (LJ w.heap.size w (w.heap.size + 2) w.heap.size (w.heap.size + 1) (w.heap.size + 3) cells i wr))
    case atStart => exact ⟨0, rfl, by omega, by omega, HS.out⟩
    case round =>
      obtain ⟨i, rfl, hi1, rfl, HL⟩ := hrel
      clear HS
      by_cases hi : i < l.length
      · have hlt : (i : Int) < (l.length : Int) := by omega
        obtain ⟨first, v, ts, vp, ps, vq, qs, next, D, mp, q, ks, R, hJ, hB⟩ := HL.out
        obtain ⟨b, o, rfl, hbB, ⟨k0, k1, k2, k3, k4⟩, wa, wb, wc, hls⟩ := HR.out.get i hi
        have q0 := (hB.cell (p := ⟨b, o + i * 5, none⟩) hbB).trans k0
        have q1 := (hB.cell (p := ⟨b, o + i * 5 + 1, none⟩) hbB).trans k1
        have q2 := (hB.cell (p := ⟨b, o + i * 5 + 2, none⟩) hbB).trans k2
        have q3 := (hB.cell (p := ⟨b, o + i * 5 + 3, none⟩) hbB).trans k3
        have q4 := (hB.cell (p := ⟨b, o + i * 5 + 4, none⟩) hbB).trans k4
        have ql : b < wr.heap.size := World.block_lt_of_cell? _ _ q0
        have Hstep : Hid (Calls Try.prog 5 #[.pointer (some ⟨w.heap.size + 2, 0, none⟩), .agg #[.int .i64 (l[i]'hi).k, .int .i64 (l[i]'hi).a, .int .i64 (l[i]'hi).b, .int .i64 (l[i]'hi).c, .slice (l[i]'hi).pl (l[i]'hi).ls.length (l[i]'hi).lc]] wr fun e w' => e = .returned (.bool true) ∧ LJ w.heap.size w (w.heap.size + 2) w.heap.size (w.heap.size + 1) (w.heap.size + 3) cells (i + 1) w') :=
          Calls.mono (step_any w.heap.size wr _ _ _ _ cells i first v ts vp ps vq qs next D mp q ks R hJ (by omega) _ _ _ _ _ _ _ (hls.below hB) wa wb wc) (fun e w' g => by
            obtain ⟨w', a1, a2, a3, a4, a5, a6, a7, a8, a9, a10, a11, a12, a13, hJ', hb'⟩ := g
            exact ⟨rfl, LJ.mk _ _ _ _ _ _ _ _ _ _ _ _ _ hJ' (hB.trans hb')⟩)
        have hwi : IntKind.i64.wrap ((i : Int) + 1) = (i : Int) + 1 := by rw [IntKind.wrap_i64]; omega
        generalize (l[i]'hi) = op at *
        clear hJ hB k0 k1 k2 k3 k4 wa wb wc hls HL hbB
        go_wp2_with fail
        refine Calls.mono Hstep.out ?_
        rintro e w4 ⟨rfl, hL⟩
        have HL : Hid (LJ w.heap.size w (w.heap.size + 2) w.heap.size (w.heap.size + 1) (w.heap.size + 3) cells (i + 1) w4) := hL
        have Hal : Hid (Calls Try.prog 6 #[.pointer (some ⟨w.heap.size + 2, 0, none⟩)] w4 fun e w' => e = .returned (.bool true) ∧ LJ w.heap.size w (w.heap.size + 2) w.heap.size (w.heap.size + 1) (w.heap.size + 3) cells (i + 1) w') := by
          obtain ⟨first, v, ts, vp, ps, vq, qs, next, D, mp, q, ks, R, hJ, hB⟩ := hL
          refine Calls.mono hJ.alike (fun e w' g => ⟨g.1, ?_⟩)
          exact LJ.mk _ _ _ _ _ _ _ _ _ _ _ _ _ (hJ.kp (Kp.of_below g.2)) (hB.trans (g.2.mono hB.size))
        clear Hstep hL HL q0 q1 q2 q3 q4 ql
        go_wp2_with fail
        refine Calls.mono Hal.out ?_
        rintro e w5 ⟨rfl, hL⟩
        have HL : Hid (LJ w.heap.size w (w.heap.size + 2) w.heap.size (w.heap.size + 1) (w.heap.size + 3) cells (i + 1) w5) := hL
        clear hL Hal
        go_wp2_with fail
        go_roundg (l.length - (i + 1))
        case measure => omega
        case rel => exact ⟨i + 1, by first | rfl | (congr 1; omega) | go_num, by omega, rfl, HL.out⟩
      · have hlt : ¬ ((i : Int) < (l.length : Int)) := by omega
        have Q : Hid (Below w.heap.size w wr) := by
          obtain ⟨first, v, ts, vp, ps, vq, qs, next, D, mp, q, ks, R, hJ, hB⟩ := HL.out
          exact hB
        clear HL
        go_wp2_with fail
        exact bodyPost_ret (by simp [results, Try.results3, go_sem]) rfl ⟨rfl, Q.out⟩
end
end Go.Proofs.Ytfeopoamednidaa
namespace Go.Proofs.Ytfeopoamednidaa
open Go.RowKit Go.Deep Go.ChangeShapes
instance : Inhabited Opx := ⟨⟨0, 0, 0, 0, none, [], 0⟩⟩
theorem choose_lt {α : Type} [Inhabited α] {n : Nat} {P : Nat → α → Prop} (h : ∀ i, i < n → ∃ a, P i a) : ∃ F : Nat → α, ∀ i, i < n → P i (F i) := by
  induction n with
  | zero => exact ⟨fun _ => default, fun i hi => absurd hi (Nat.not_lt_zero _)⟩
  | succ n ih =>
    obtain ⟨F, hF⟩ := ih (fun i hi => h i (by omega))
    obtain ⟨a, ha⟩ := h n (by omega)
    refine ⟨fun i => if i = n then a else F i, fun i hi => ?_⟩
    by_cases e : i = n
    · subst e
      simpa using ha
    · simp only [if_neg e]
      exact hF i (by omega)
section
variable {H : Type} {enc : TypeId × Value → H} {P : Program} {w : World} {base : Nat} {sp : Nat → Bool} {hd : Bool}
/-- A row opened: its elements' cells, each with what its reading says. -/
inductive RowIn {α : Type} (w : World) (n : Nat) (Q : List Value → α → Prop) (cs : List Value) : Prop
  | mk (p : Option Addr) (cap : Nat) (us : List α) (hcs : cs = [.slice p us.length cap])
      (hat : ∀ i (hi : i < us.length), ∃ b o c, p = some ⟨b, o, none⟩ ∧ (∀ j, j < n → w.cell? ⟨b, o + (i * n + j), none⟩ = c[j]?) ∧ c.length = n ∧ Q c (us[i]'hi)) : RowIn w n Q cs
theorem open_rowin {α : Type} [Inhabited α] {te ts : TypeId} {n : Nat} (hs : P.underlying ts = some (.slice te)) (hc : P.cellsOf te = n) (hn : 0 < n) (Q : List Value → α → Prop) (fuel : Nat) (key : ∀ m, m < fuel → ∀ (cs : List Value) (x : DataW H × List MemPlace), DataW.trod enc P w base sp hd m te cs = some x → ∃ a, Q cs a)
    (cs : List Value) (x : DataW H × List MemPlace) (h : DataW.trod enc P w base sp hd fuel ts cs = some x) : RowIn w n Q cs := by
  rcases DataW.trod_slice hs h with ⟨rfl, rfl⟩ | ⟨a, len, cap, elems, rest, n', rfl, rfl, rfl, hb, hl, hmx, hel, hat, _, _⟩
  · exact RowIn.mk none 0 [] rfl (fun i hi => absurd hi (Nat.not_lt_zero _))
  · rw [hc] at hat
    have k1 : ∀ i, i < len → ∃ q : List Value × α, (∀ j, j < n → w.cell? ((a.add (i * n)).add j) = q.1[j]?) ∧ q.1.length = n ∧ Q q.1 q.2 := by
      intro i hi
      have h1 := hat i hi
      rw [List.getElem?_eq_getElem (by omega)] at h1
      obtain ⟨cs', h2, h3⟩ := Option.bind_eq_some_iff.1 h1
      obtain ⟨T, hT⟩ := key n' (by omega) cs' _ h3
      obtain ⟨_, hl5, hcell⟩ := World.cells?_some h2
      exact ⟨(cs', T), hcell, hl5, hT⟩
    obtain ⟨F, hF⟩ := choose_lt (α := List Value × α) k1
    have has : ((List.range len).map fun i => (F i).2).length = len := by simp
    refine RowIn.mk (some a) cap ((List.range len).map fun i => (F i).2) (by rw [has]) ?_
    intro i hi
    rw [has] at hi
    obtain ⟨b, o, spot⟩ := a
    have hc0 := (hF 0 (by omega)).1 0 hn
    rw [List.getElem?_eq_getElem (by rw [(hF 0 (by omega)).2.1]; omega)] at hc0
    have hspot : spot = none := by simpa [Addr.add] using World.cell?_spot hc0
    subst hspot
    refine ⟨b, o, (F i).1, rfl, fun j hj => ?_, (hF i hi).2.1, ?_⟩
    · have := (hF i hi).1 j hj
      rw [add_at, add_at] at this
      rw [← Nat.add_assoc]
      exact this
    · simp only [List.getElem_map, List.getElem_range]
      exact (hF i hi).2.2
theorem trod_struct5 {t : TypeId} {f0 f1 f2 f3 f4 : Field} {fuel : Nat} {cs : List Value} {x : DataW H × List MemPlace} (ht : P.underlying t = some (.struct #[f0, f1, f2, f3, f4])) (h : DataW.trod enc P w base sp hd fuel t cs = some x) :
    ∃ y0 y1 y2 y3 y4 n, fuel = n + 1 ∧ cs.length = P.cellsOf t ∧ DataW.trod enc P w base sp hd n f0.type ((cs.drop f0.offset).take (P.cellsOf f0.type)) = some y0 ∧ DataW.trod enc P w base sp hd n f1.type ((cs.drop f1.offset).take (P.cellsOf f1.type)) = some y1 ∧ DataW.trod enc P w base sp hd n f2.type ((cs.drop f2.offset).take (P.cellsOf f2.type)) = some y2 ∧ DataW.trod enc P w base sp hd n f3.type ((cs.drop f3.offset).take (P.cellsOf f3.type)) = some y3 ∧ DataW.trod enc P w base sp hd n f4.type ((cs.drop f4.offset).take (P.cellsOf f4.type)) = some y4 := by
  obtain ⟨xs, n, h1, h2, h3, h4, h5⟩ := DataW.trod_struct ht h
  match xs, h4 with
  | [y0, y1, y2, y3, y4], _ => exact ⟨y0, y1, y2, y3, y4, n, h1, h3, h5 0 f0 rfl, h5 1 f1 rfl, h5 2 f2 rfl, h5 3 f3 rfl, h5 4 f4 rfl⟩
theorem cells38 : Try.prog.cellsOf 38 = 5 := by kernel_rfl
theorem cells3 : Try.prog.cellsOf 3 = 1 := by kernel_rfl
theorem cells36 : Try.prog.cellsOf 36 = 1 := by kernel_rfl
/-- A row of numbers, opened. -/
theorem open_ints (fuel : Nat) (cs : List Value) (x : DataW H × List MemPlace) (h : DataW.trod enc Try.prog w base sp hd fuel 36 cs = some x) : ∃ p cap l, cs = [.slice p (l : List Int).length cap] ∧ RowI w.heap.size w p l := by
  have hr := open_rowin Try.underlying36 cells3 (by omega) (fun cs (n : Int) => cs = [.int .i64 n] ∧ (Lit.int .i64 n).wf = true) fuel (fun m _ cs x h => by
    obtain ⟨k, h0, _, w0⟩ := DataW.trod_int Try.underlying3 h
    exact ⟨k, h0, w0⟩) cs x h
  cases hr with
  | mk p cap us hcs hat =>
  refine ⟨p, cap, us, hcs, ⟨fun i hi => ?_⟩⟩
  obtain ⟨b, o, c, rfl, hc, _, rfl, hw⟩ := hat i hi
  have g0 := hc 0 (by omega)
  simp only [Nat.mul_one, Nat.add_zero, List.getElem?_cons_zero] at g0
  exact ⟨b, o, rfl, World.block_lt_of_cell? _ _ g0, g0, hw⟩
set_option maxRecDepth 100000 in
/-- The script, opened. -/
theorem open_ops (fuel : Nat) (cs : List Value) (x : DataW H × List MemPlace) (h : DataW.trod enc Try.prog w base sp hd fuel 22 cs = some x) : ∃ p cap l, cs = [.slice p (l : List Opx).length cap] ∧ RowO w.heap.size w p l := by
  have hr := open_rowin Try.underlying22 cells38 (by omega) (fun cs (o : Opx) => cs = [.int .i64 o.k, .int .i64 o.a, .int .i64 o.b, .int .i64 o.c, .slice o.pl o.ls.length o.lc] ∧ (Lit.int .i64 o.a).wf = true ∧ (Lit.int .i64 o.b).wf = true ∧ (Lit.int .i64 o.c).wf = true ∧ RowI w.heap.size w o.pl o.ls) fuel (fun m _ cs x h => by
    obtain ⟨y0, y1, y2, y3, y4, n, rfl, hlen, e0, e1, e2, e3, e4⟩ := trod_struct5 Try.underlying38 h
    rw [cells38] at hlen
    simp only [cells3, cells36] at e0 e1 e2 e3 e4
    match cs, hlen with
    | [c0, c1, c2, c3, c4], _ =>
      obtain ⟨k0, h0, _, w0⟩ := DataW.trod_int Try.underlying3 e0
      obtain ⟨k1, h1, _, w1⟩ := DataW.trod_int Try.underlying3 e1
      obtain ⟨k2, h2, _, w2⟩ := DataW.trod_int Try.underlying3 e2
      obtain ⟨k3, h3, _, w3⟩ := DataW.trod_int Try.underlying3 e3
      obtain ⟨p, cap, l, h4, hl⟩ := open_ints _ _ _ e4
      simp at h0 h1 h2 h3 h4
      subst h0 h1 h2 h3 h4
      exact ⟨⟨k0, k1, k2, k3, p, l, cap⟩, rfl, w1, w2, w3, hl⟩) cs x h
  cases hr with
  | mk p cap us hcs hat =>
  refine ⟨p, cap, us, hcs, ⟨fun i hi => ?_⟩⟩
  obtain ⟨b, o, c, rfl, hc, _, rfl, w1, w2, w3, hl⟩ := hat i hi
  have g : ∀ j, j < 5 → w.cell? ⟨b, o + i * 5 + j, none⟩ = [Value.int .i64 (us[i]'hi).k, .int .i64 (us[i]'hi).a, .int .i64 (us[i]'hi).b, .int .i64 (us[i]'hi).c, .slice (us[i]'hi).pl (us[i]'hi).ls.length (us[i]'hi).lc][j]? := fun j hj => by rw [Nat.add_assoc]; exact hc j hj
  exact ⟨b, o, rfl, World.block_lt_of_cell? _ _ (g 0 (by omega)), ⟨g 0 (by omega), g 1 (by omega), g 2 (by omega), g 3 (by omega), g 4 (by omega)⟩, w1, w2, w3, hl⟩
end
end Go.Proofs.Ytfeopoamednidaa
