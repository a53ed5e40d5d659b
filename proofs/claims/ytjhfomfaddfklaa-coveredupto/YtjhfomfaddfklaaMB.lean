/-
  The program's layer matches: may a part be (shaped)? Is there room for patterns (takes)?
-/
import Derived.Test.YtjhfomfaddfklaaV1
namespace Go.Proofs.Ytjhfomfaddfklaa
open Go.RowKit Go.Deep
section
set_option maxHeartbeats 8000000
set_option maxRecDepth 100000
theorem shaped_any (c : PC) (w : World) (hm : c.len ≤ maxLen) : Calls Try.prog 38 #[c.val] w fun e w' => e = .returned (.bool (okP c.k c.n c.o c.len)) ∧ Below w.heap.size w w' := by
  obtain ⟨k, n, o, a, s, p, len, cap⟩ := c
  simp only [PC.val]
  unfold maxLen at hm
  have HQ : Hid (Below w.heap.size w (w.alloc (PC.obj ⟨k, n, o, a, s, p, len, cap⟩))) := (Below.refl _ _).alloc (Nat.le_refl _) _
  by_cases h0 : k = 0 ∨ k = 1 ∨ k = 3 ∨ k = 4
  · have R : okP k n o len = ((len : Int) == 0) := by
      unfold okP
      rw [if_pos h0]
      by_cases h : len = 0 <;> simp [h]
    rw [R]
    clear R
    rcases h0 with rfl | rfl | rfl | rfl <;>
    · go_enter Try.func38, Try.ntmps38
      go_wp2
      go_ret
      exact ⟨rfl, HQ.out⟩
  · have e0 : (k == 0) = false := by rw [beq_eq_false_iff_ne]; omega
    have e1 : (k == 1) = false := by rw [beq_eq_false_iff_ne]; omega
    have e3 : (k == 3) = false := by rw [beq_eq_false_iff_ne]; omega
    have e4 : (k == 4) = false := by rw [beq_eq_false_iff_ne]; omega
    by_cases h2 : k = 2
    · have R : okP k n o len = ((len : Int) == 1) := by
        unfold okP
        rw [if_neg h0, if_pos h2]
        by_cases h : len = 1 <;> simp [h]
        omega
      rw [R]
      clear R h0
      subst h2
      go_enter Try.func38, Try.ntmps38
      go_wp2
      go_ret
      exact ⟨rfl, HQ.out⟩
    · have e2 : (k == 2) = false := by rw [beq_eq_false_iff_ne]; omega
      by_cases h5 : k = 5
      · have R : okP k n o len = ((len : Int) != 1) := by
          unfold okP
          rw [if_neg h0, if_neg h2, if_pos h5]
          by_cases h : len = 1 <;> simp [h]
          omega
        rw [R]
        clear R h0 h2
        subst h5
        go_enter Try.func38, Try.ntmps38
        go_wp2
        go_ret
        exact ⟨rfl, HQ.out⟩
      · have e5 : (k == 5) = false := by rw [beq_eq_false_iff_ne]; omega
        by_cases h6 : k = 6
        · have R : okP k n o len = (decide (len ≤ 1) && (decide (0 ≤ n) && decide (n < o))) := by
            unfold okP
            rw [if_neg h0, if_neg h2, if_neg h5, if_pos h6]
          rw [R]
          clear R h0 h2 h5
          subst h6
          by_cases g1 : len ≤ 1
          · have g1' : (len : Int) ≤ 1 := by omega
            by_cases g2 : 0 ≤ n
            · by_cases g3 : n < o
              · have R : (decide (len ≤ 1) && (decide (0 ≤ n) && decide (n < o))) = true := by simp [g1, g2, g3]
                rw [R]
                clear R
                go_enter Try.func38, Try.ntmps38
                go_wp2
                go_ret
                exact ⟨rfl, HQ.out⟩
              · have R : (decide (len ≤ 1) && (decide (0 ≤ n) && decide (n < o))) = false := by simp [g3]
                rw [R]
                clear R
                go_enter Try.func38, Try.ntmps38
                go_wp2
                go_ret
                exact ⟨rfl, HQ.out⟩
            · have R : (decide (len ≤ 1) && (decide (0 ≤ n) && decide (n < o))) = false := by simp [g2]
              rw [R]
              clear R
              go_enter Try.func38, Try.ntmps38
              go_wp2
              go_ret
              exact ⟨rfl, HQ.out⟩
          · have g1' : ¬ (len : Int) ≤ 1 := by omega
            have R : (decide (len ≤ 1) && (decide (0 ≤ n) && decide (n < o))) = false := by simp [g1]
            rw [R]
            clear R g1
            go_enter Try.func38, Try.ntmps38
            go_wp2
            go_ret
            exact ⟨rfl, HQ.out⟩
        · have e6 : (k == 6) = false := by rw [beq_eq_false_iff_ne]; omega
          by_cases h7 : k = 7
          · have R : okP k n o len = decide ((len : Int) ≤ 1) := by
              unfold okP
              rw [if_neg h0, if_neg h2, if_neg h5, if_neg h6, if_pos h7]
              by_cases h : len ≤ 1
              · have : (len : Int) ≤ 1 := by omega
                simp [h, this]
              · have : ¬ (len : Int) ≤ 1 := by omega
                simp [h, this]
            rw [R]
            clear R h0 h2 h5 h6
            subst h7
            go_enter Try.func38, Try.ntmps38
            go_wp2
            go_ret
            exact ⟨rfl, HQ.out⟩
          · have e7 : (k == 7) = false := by rw [beq_eq_false_iff_ne]; omega
            have R : okP k n o len = false := by
              unfold okP
              rw [if_neg h0, if_neg h2, if_neg h5, if_neg h6, if_neg h7]
            rw [R]
            clear R h0 h2 h5 h6 h7
            go_enter Try.func38, Try.ntmps38
            go_wp2
            go_ret
            exact ⟨rfl, HQ.out⟩
end
end Go.Proofs.Ytjhfomfaddfklaa
namespace Go.Proofs.Ytjhfomfaddfklaa
open Go.RowKit Go.Deep
/-- How many parts may still come, in a cell. -/
def RoomBox (w : World) (b : Nat) (n : Int) : Prop := w.heap[b]? = some (.cells #[.int .i64 n] 49)
theorem RoomBox.lt {w : World} {b : Nat} {n : Int} (h : RoomBox w b n) : b < w.heap.size := (Array.getElem?_eq_some_iff.1 h).1
theorem RoomBox.cell {w : World} {b : Nat} {n : Int} (h : RoomBox w b n) : w.cell? ⟨b, 0, none⟩ = some (.int .i64 n) := by
  unfold RoomBox at h
  simp [World.cell?, h]
theorem RoomBox.frozen {w : World} {b : Nat} {n : Int} (h : RoomBox w b n) : w.frozen? ⟨b, 0, none⟩ = false := by
  unfold RoomBox at h
  simp [World.frozen?, h]
theorem RoomBox.below {w w' : World} {b : Nat} {n : Int} (h : RoomBox w b n) (hb : Below w.heap.size w w') : RoomBox w' b n := (hb.block b h.lt).trans h
theorem RoomBox.set {w : World} {b : Nat} {n : Int} (h : RoomBox w b n) (n' : Int) : RoomBox (w.setCell ⟨b, 0, none⟩ (.int .i64 n')) b n' := by
  unfold RoomBox at *
  simp [World.setCell, Array.getElem?_modify, h]
inductive TakesPost (wb : World) (rb : Nat) (R : Int) (e : Ending) (w' : World) : Prop
  | mk (he : e = .returned (.bool (decide (0 ≤ R)))) (hb : Below wb.heap.size wb w') (hr : 0 ≤ R → RoomBox w' rb R) : TakesPost wb rb R e w'
section
set_option maxHeartbeats 8000000
set_option maxRecDepth 100000
/-- A row, if there is room for the kids of its patterns. -/
theorem takes_row (wb : World) (rb : Nat) (l : List Pt) (ih : ∀ i (hi : i < l.length) (c : PC), PtIn wb c (l[i]'hi) → ∀ (left : Int) (w : World), 0 ≤ left → left ≤ 1000 → Below wb.heap.size wb w → wb.heap.size ≤ rb → RoomBox w rb left → Calls Try.prog 22 #[.pointer (some ⟨rb, 0, none⟩), .slice c.p c.len c.cap] w fun e w' => TakesPost wb rb (properL (l[i]'hi).kids left) e w')
    (p : Option Addr) (cap : Nat) (left : Int) (w : World) (hp : RowAt wb wb p l) (hl0 : 0 ≤ left) (hl1 : left ≤ 1000) (hbw : Below wb.heap.size wb w) (hrb : wb.heap.size ≤ rb) (hbox : RoomBox w rb left) :
    Calls Try.prog 22 #[.pointer (some ⟨rb, 0, none⟩), .slice p l.length cap] w fun e w' => TakesPost wb rb (properL l left) e w' := by
  have Hih : Hid (∀ i (hi : i < l.length) (c : PC), PtIn wb c (l[i]'hi) → ∀ (left : Int) (w : World), 0 ≤ left → left ≤ 1000 → Below wb.heap.size wb w → wb.heap.size ≤ rb → RoomBox w rb left → Calls Try.prog 22 #[.pointer (some ⟨rb, 0, none⟩), .slice c.p c.len c.cap] w fun e w' => TakesPost wb rb (properL (l[i]'hi).kids left) e w') := ih
  have Hp : Hid (RowAt wb wb p l) := hp
  have hml := hp.len
  unfold maxLen at hml
  clear ih hp
  go_enter Try.func22, Try.ntmps22
  go_wp2_with fail
  go_loopg [9] l.length (fun g iv wr => ∃ (i : Nat) (t : Int), iv = .int .i64 i ∧ i ≤ l.length ∧ g = l.length - i ∧ 0 ≤ t ∧ t ≤ 1000 ∧ Hid (Below wb.heap.size wb wr ∧ RoomBox wr rb t ∧ properL (l.drop i) t = properL l left))
  case atStart => exact ⟨0, left, rfl, by omega, by omega, hl0, hl1, hbw, hbox, by simp⟩
  case round =>
    obtain ⟨i, t, rfl, hi1, rfl, ht0, ht1, HL⟩ := hrel
    obtain ⟨q1, q2, q3⟩ := HL.out
    clear HL hbox hbw
    by_cases hi : i < l.length
    · have hi' : (i : Int) < l.length := by omega
      obtain ⟨b, o, c, rfl, hc6, hPt⟩ := Hp.out.get i hi
      have hc6' := hc6.below q1
      have Hcall : Hid (∀ (left : Int) (w : World), 0 ≤ left → left ≤ 1000 → Below wb.heap.size wb w → wb.heap.size ≤ rb → RoomBox w rb left → Calls Try.prog 22 #[.pointer (some ⟨rb, 0, none⟩), .slice c.p c.len c.cap] w fun e w' => TakesPost wb rb (properL (l[i]'hi).kids left) e w') := Hih.out i hi c hPt
      have Hd : Hid (properL (l.drop i) t = properL (l.drop (i + 1)) (properP (l[i]'hi) t)) := by
        unfold Hid
        rw [properL_drop l i hi, if_pos ht0]
      obtain ⟨e1, e2, e3, e4, e5, e6, e7⟩ := hPt.parts
      have Hpr : Hid (properP (l[i]'hi) t = if okP c.k c.n c.o c.len = true then properL (l[i]'hi).kids (t - 1) else -1) := by
        unfold Hid
        generalize l[i]'hi = P at *
        cases P with
        | mk k n o a s kids =>
          simp only [Pt.k, Pt.n, Pt.o, Pt.s, Pt.kids] at *
          rw [properP, e1, e2, e3, e5]
      generalize hP : l[i]'hi = P at *
      have Q3 : Hid (properL (l.drop i) t = properL l left) := q3
      clear q3 hPt hP e1 e2 e3 e4 e5 e7
      obtain ⟨d0, d1, d2, d3, d4, d5⟩ := hc6'
      have hbl := World.block_lt_of_cell? _ _ d0
      clear hc6
      have hrc := q2.cell
      have hrf := q2.frozen
      have hrl := q2.lt
      obtain ⟨k, n, oo, a, s, cp, cl, cc⟩ := c
      simp only at *
      have hwt : IntKind.i64.wrap (t - 1) = t - 1 := by rw [IntKind.wrap_i64]; omega
      have hr1 : RoomBox ((wr.setCell ⟨rb, 0, none⟩ (.int .i64 (t - 1))).alloc (PC.obj ⟨k, n, oo, a, s, cp, cl, cc⟩)) rb (t - 1) := (q2.set (t - 1)).below ((Below.refl _ _).alloc (Nat.le_refl _) _)
      have hp1 : PBox ((wr.setCell ⟨rb, 0, none⟩ (.int .i64 (t - 1))).alloc (PC.obj ⟨k, n, oo, a, s, cp, cl, cc⟩)) wr.heap.size ⟨k, n, oo, a, s, cp, cl, cc⟩ := by
        have := pbox_new (wr.setCell ⟨rb, 0, none⟩ (.int .i64 (t - 1))) ⟨k, n, oo, a, s, cp, cl, cc⟩
        rw [show (wr.setCell ⟨rb, 0, none⟩ (.int .i64 (t - 1))).heap.size = wr.heap.size by simp [World.setCell]] at this
        exact this
      have hb1 : Below wb.heap.size wb ((wr.setCell ⟨rb, 0, none⟩ (.int .i64 (t - 1))).alloc (PC.obj ⟨k, n, oo, a, s, cp, cl, cc⟩)) := by
        have h1 : Below wb.heap.size wb (wr.setCell ⟨rb, 0, none⟩ (.int .i64 (t - 1))) := q1.setCell (p := ⟨rb, 0, none⟩) hrb _
        exact h1.alloc h1.size _
      have Hb1 : Hid (Below wb.heap.size wb _) := hb1
      have Hr1 : Hid (RoomBox _ rb (t - 1)) := hr1
      have Hp1 : Hid (PBox _ _ _) := hp1
      clear hb1 hr1 hp1
      go_upto_region 5 with fail
      simp only [PC.obj] at Hb1 Hr1 Hp1
      generalize (wr.setCell ⟨rb, 0, none⟩ (.int .i64 (t - 1))).alloc (Obj.cells #[.int .i64 k, .int .i64 n, .int .i64 oo, .int .i64 a, .string s, .slice cp cl cc] 26) = w2 at *
      generalize wr.heap.size = pb at *
      clear d0 d1 d2 d3 d4 d5 hrc hrf hrl q1 q2 hbl
      have hrc := RoomBox.cell Hr1.out
      have hrl := RoomBox.lt Hr1.out
      obtain ⟨d0, d1, d2, d3, d4, d5, d6⟩ := PBox.cells' Hp1.out
      simp only at d0 d1 d2 d3 d4 d5
      by_cases hneg : t - 1 < 0
      · have Q : Hid (TakesPost wb rb (properL l left) (.returned (.bool false)) w2) := by
          have hn : properL l left < 0 := by
            rw [← Q3.out, Hd.out]
            have h1 : properP P t < 0 := by
              rw [Hpr.out]
              split
              · rw [properL_neg _ hneg]; exact hneg
              · omega
            rw [properL_neg _ h1]
            exact h1
          exact TakesPost.mk (by rw [decide_eq_false (by omega)]) Hb1.out (fun h => by omega)
        clear Hcall Hpr Hd Q3 Hih Hp
        go_wp2
        go_ret
        exact Q.out
      · have hneg' : ¬ t - 1 < 0 := hneg
        have Hsh : Hid _ := shaped_any ⟨k, n, oo, a, s, cp, cl, cc⟩ w2 e6
        simp only [PC.val] at Hsh
        cases hok : okP k n oo cl with
        | false =>
          rw [hok] at Hsh Hpr
          have Q : Hid (∀ w3, Below w2.heap.size w2 w3 → TakesPost wb rb (properL l left) (.returned (.bool false)) w3) := fun w3 h3 => by
            have hn : properL l left < 0 := by
              rw [← Q3.out, Hd.out, Hpr.out]
              simp only [Bool.false_eq_true, if_false]
              rw [properL_neg _ (by omega)]
              omega
            exact TakesPost.mk (by rw [decide_eq_false (by omega)]) (Below.trans Hb1.out (h3.mono Hb1.out.size)) (fun h => by omega)
          clear Hcall Hpr Hd Q3 Hih Hp
          go_wp2_with (go_at_call 38; refine Calls.mono Hsh.out ?_; clear Hsh; rintro e9 w3 ⟨rfl, h3⟩)
          go_ret
          exact Q.out _ h3
        | true =>
          rw [hok] at Hsh Hpr
          simp only [if_true] at Hpr
          have Hnext : Hid (∀ w3, Below w2.heap.size w2 w3 → (∀ j v, w2.cell? ⟨pb, j, none⟩ = some v → w3.cell? ⟨pb, j, none⟩ = some v) ∧ pb < w3.heap.size ∧ Calls Try.prog 22 #[.pointer (some ⟨rb, 0, none⟩), .slice cp cl cc] w3 fun e w' => TakesPost wb rb (properL P.kids (t - 1)) e w') := fun w3 h3 => by
            refine ⟨fun j v hv => (h3.cell (p := ⟨pb, j, none⟩) d6).trans hv, Nat.lt_of_lt_of_le d6 h3.size, Hcall.out (t - 1) w3 (by omega) (by omega) (Below.trans Hb1.out (h3.mono Hb1.out.size)) hrb (Hr1.out.below h3)⟩
          clear Hcall
          generalize hR : properL P.kids (t - 1) = R at *
          have HR : Hid (R ≤ t - 1 ∨ R = -1) := by
            have := properL_le P.kids (t - 1)
            unfold Hid
            omega
          by_cases hR0 : 0 ≤ R
          · have Q : Hid (properL (l.drop (i + 1)) R = properL l left) := by
              unfold Hid
              rw [← Q3.out, Hd.out, Hpr.out]
            have hRl : R ≤ 1000 := by have := HR.out; omega
            have hdec : decide (0 ≤ R) = true := decide_eq_true hR0
            rw [hdec] at *
            clear Hpr Hd Q3 Hih Hp HR
            go_wp2_with (first
              | (go_at_call 38; refine Calls.mono Hsh.out ?_; clear Hsh; rintro e9 w3 ⟨rfl, h3⟩; obtain ⟨n1, n2, Hn3⟩ := Hnext.out w3 h3; have n5 := n1 5 _ d5; clear n1 Hnext)
              | (go_at_call 22; refine Calls.mono Hn3 ?_; clear Hn3; rintro e8 w4 ⟨rfl, h4, h5⟩))
            go_roundg (l.length - (i + 1))
            case measure => omega
            case rel => exact ⟨i + 1, R, by first | rfl | (congr 1; omega) | go_num, by omega, rfl, hR0, hRl, h4, h5 hR0, Q.out⟩
          · have Q : Hid (∀ w4, Below wb.heap.size wb w4 → TakesPost wb rb (properL l left) (.returned (.bool false)) w4) := fun w4 h4 => by
              have hn : properL l left < 0 := by
                rw [← Q3.out, Hd.out, Hpr.out, properL_neg _ (by omega)]
                omega
              exact TakesPost.mk (by rw [decide_eq_false (by omega)]) h4 (fun h => by omega)
            have Hdec : Hid (decide (0 ≤ R) = false) := decide_eq_false hR0
            clear Hpr Hd Q3 Hih Hp HR
            go_wp2_with (first
              | (go_at_call 38; refine Calls.mono Hsh.out ?_; clear Hsh; rintro e9 w3 ⟨rfl, h3⟩; obtain ⟨n1, n2, Hn3⟩ := Hnext.out w3 h3; have n5 := n1 5 _ d5; clear n1 Hnext)
              | (go_at_call 22; refine Calls.mono Hn3 ?_; clear Hn3; rintro e8 w4 ⟨he, h4, h5⟩; rw [Hdec.out] at he; subst he))
            go_ret
            exact Q.out _ h4
    · have hi' : ¬ (i : Int) < l.length := by omega
      have Q : Hid (TakesPost wb rb (properL l left) (.returned (.bool true)) wr) := by
        have : properL l left = t := by
          rw [← q3, List.drop_eq_nil_of_le (by omega), properL]
        rw [this]
        exact TakesPost.mk (by rw [decide_eq_true ht0]) q1 (fun _ => q2)
      clear q1 q2 q3 Hih Hp
      go_wp2
      go_ret
      exact Q.out
mutual
theorem takes_kids (wb : World) (rb : Nat) : ∀ (P : Pt) (c : PC), PtIn wb c P → ∀ (left : Int) (w : World), 0 ≤ left → left ≤ 1000 → Below wb.heap.size wb w → wb.heap.size ≤ rb → RoomBox w rb left → Calls Try.prog 22 #[.pointer (some ⟨rb, 0, none⟩), .slice c.p c.len c.cap] w fun e w' => TakesPost wb rb (properL P.kids left) e w'
  | .mk k n o a s kids, c, hP, left, w, h0, h1, h2, h3, h4 => by
    have hrow := hP.row (Below.refl wb.heap.size wb)
    have hlen := hP.parts.2.2.2.2.1
    simp only [Pt.kids] at hrow hlen ⊢
    rw [← hlen]
    exact takes_row wb rb kids (fun i hi c' hc' => takes_all wb rb kids i hi c' hc') c.p c.cap left w hrow h0 h1 h2 h3 h4
theorem takes_all (wb : World) (rb : Nat) : ∀ (l : List Pt) (i : Nat) (hi : i < l.length) (c : PC), PtIn wb c (l[i]'hi) → ∀ (left : Int) (w : World), 0 ≤ left → left ≤ 1000 → Below wb.heap.size wb w → wb.heap.size ≤ rb → RoomBox w rb left → Calls Try.prog 22 #[.pointer (some ⟨rb, 0, none⟩), .slice c.p c.len c.cap] w fun e w' => TakesPost wb rb (properL (l[i]'hi).kids left) e w'
  | x :: r, 0, _, c, hP, left, w, h0, h1, h2, h3, h4 => takes_kids wb rb x c hP left w h0 h1 h2 h3 h4
  | x :: r, i + 1, hi, c, hP, left, w, h0, h1, h2, h3, h4 => takes_all wb rb r i (by simpa using hi) c (by simpa using hP) left w h0 h1 h2 h3 h4
end
theorem takes_any (wb : World) (rb : Nat) (l : List Pt) (p : Option Addr) (cap : Nat) (left : Int) (w : World) (hp : RowAt wb wb p l) (hl0 : 0 ≤ left) (hl1 : left ≤ 1000) (hbw : Below wb.heap.size wb w) (hrb : wb.heap.size ≤ rb) (hbox : RoomBox w rb left) :
    Calls Try.prog 22 #[.pointer (some ⟨rb, 0, none⟩), .slice p l.length cap] w fun e w' => TakesPost wb rb (properL l left) e w' :=
  takes_row wb rb l (fun i hi c hc => takes_all wb rb l i hi c hc) p cap left w hp hl0 hl1 hbw hrb hbox
end
end Go.Proofs.Ytjhfomfaddfklaa
namespace Go.Proofs.Ytjhfomfaddfklaa
open Go.RowKit Go.Deep
theorem RowAt.rebase {wb w : World} {p : Option Addr} {l : List Pt} (h : RowAt wb w p l) (hb : Below wb.heap.size wb w) : RowAt w w p l :=
  ⟨h.len, fun i hi => by
    obtain ⟨b, o, c, h1, h2, h3⟩ := h.get i hi
    exact ⟨b, o, c, h1, h2, h3.keep hb⟩⟩
theorem MatAt.rebase {wb w : World} {p : Option Addr} {m : List (List Pt)} (h : MatAt wb w p m) (hb : Below wb.heap.size wb w) : MatAt w w p m :=
  ⟨h.len, fun i hi => by
    obtain ⟨b, o, q, cap, h1, h2, h3, h4⟩ := h.get i hi
    exact ⟨b, o, q, cap, h1, h2, h3, h4.rebase hb⟩⟩
/-- The number that is told of the first row that may not be. -/
def wrongP : Option Nat → Int
  | some i => i
  | none => -1
theorem room_new (w : World) (n : Int) : RoomBox (w.alloc (.cells #[.int .i64 n] 49)) w.heap.size n := (MapKept.heap_alloc w _).1
section
set_option maxHeartbeats 8000000
set_option maxRecDepth 100000
theorem wrong_any (w : World) (m : List (List Pt)) (q : List Pt) (p : Option Addr) (cap : Nat) (p' : Option Addr) (cap' : Nat) (hM : MatAt w w p m) (hQ : RowAt w w p' q) :
    Calls Try.prog 13 #[.slice p m.length cap, .slice p' q.length cap'] w fun e w' => e = .returned (.int .i64 (wrongP (argFrom q.length (m ++ [q]) 0 150))) ∧ Below w.heap.size w w' := by
  have HM : Hid (MatAt w w p m) := hM
  have HQ : Hid (RowAt w w p' q) := hQ
  have hml := hM.len
  unfold maxLen at hml
  have hql := hQ.len
  unfold maxLen at hql
  have hr0 := room_new w 150
  have hb0 : Below w.heap.size w (w.alloc (.cells #[.int .i64 150] 49)) := (Below.refl _ _).alloc (Nat.le_refl _) _
  clear hM hQ
  go_enter Try.func13, Try.ntmps13
  go_wp2_with fail
  generalize w.alloc (.cells #[.int .i64 150] 49) = w0 at *
  go_loopg [11] m.length (fun g iv wr => ∃ (i : Nat) (t : Int), iv = .int .i64 i ∧ i ≤ m.length ∧ g = m.length - i ∧ 0 ≤ t ∧ t ≤ 150 ∧ Hid (Below w.heap.size w wr ∧ RoomBox wr w.heap.size t ∧ argFrom q.length ((m ++ [q]).drop i) i t = argFrom q.length (m ++ [q]) 0 150))
  case atStart => exact ⟨0, 150, rfl, by omega, by omega, by omega, by omega, hb0, hr0, by simp⟩
  case round =>
    obtain ⟨i, t, rfl, hi1, rfl, ht0, ht1, HL⟩ := hrel
    obtain ⟨q1, q2, q3⟩ := HL.out
    clear HL hb0 hr0
    have hdr := argFrom_drop q.length (m ++ [q]) i (by simp; omega) t
    by_cases hi : i < m.length
    · have hi' : (i : Int) < m.length := by omega
      obtain ⟨b, o, z, zc, rfl, hcell, hzc, hrow⟩ := HM.out.get i hi
      have hgi : (m ++ [q])[i]'(by simp; omega) = m[i]'hi := by rw [List.getElem_append_left hi]
      rw [hgi, q3] at hdr
      clear hgi
      generalize m[i]'hi = r at *
      have hcell' := (q1.cell (p := ⟨b, o + i, none⟩) (World.block_lt_of_cell? _ _ hcell)).trans hcell
      have hbl := World.block_lt_of_cell? _ _ hcell'
      have hrl := hrow.len
      unfold maxLen at hrl
      have Q3 : Hid (argFrom q.length (m ++ [q]) 0 150 = _) := hdr
      have Q1 : Hid (Below w.heap.size w wr) := q1
      have Q2 : Hid (RoomBox wr w.heap.size t) := q2
      clear hdr q1 q2 q3 hcell
      by_cases hlen : r.length = q.length
      · have hne : ((r.length : Int) != (q.length : Int)) = false := by simp; omega
        have Hcall : Hid _ := takes_any w w.heap.size r z zc t wr hrow ht0 (by omega) Q1.out (Nat.le_refl _) Q2.out
        have hrL : rowLeft q.length r t = properL r t := by unfold rowLeft; rw [if_pos hlen]
        rw [hrL] at Q3
        generalize hR : properL r t = R at *
        have HR : Hid (R ≤ t ∨ R = -1) := by
          have := properL_le r t
          unfold Hid
          omega
        by_cases hR0 : 0 ≤ R
        · rw [if_neg (by omega)] at Q3
          have Hdec : Hid (decide (0 ≤ R) = true) := decide_eq_true hR0
          have hR1 : R ≤ 150 := by have := HR.out; omega
          clear hrow hR hrL HR hlen
          go_wp2_with (go_at_call 22; refine Calls.mono Hcall.out ?_; clear Hcall; rintro e8 w4 ⟨he, h4, h5⟩; rw [Hdec.out] at he; subst he)
          go_roundg (m.length - (i + 1))
          case measure => omega
          case rel => exact ⟨i + 1, R, by first | rfl | (congr 1; omega) | go_num, by omega, rfl, hR0, hR1, h4, h5 hR0, Q3.out.symm⟩
        · rw [if_pos (by omega)] at Q3
          have Hdec : Hid (decide (0 ≤ R) = false) := decide_eq_false hR0
          clear hrow hR hrL HR hlen
          have Q : Hid (∀ w4, Below w.heap.size w w4 → Ending.returned (.int .i64 i) = Ending.returned (.int .i64 (wrongP (argFrom q.length (m ++ [q]) 0 150))) ∧ Below w.heap.size w w4) := fun w4 h4 => ⟨by rw [Q3.out]; rfl, h4⟩
          clear Q3
          go_wp2_with (go_at_call 22; refine Calls.mono Hcall.out ?_; clear Hcall; rintro e8 w4 ⟨he, h4, h5⟩; rw [Hdec.out] at he; subst he)
          go_ret
          exact Q.out _ h4
      · have hne : ((r.length : Int) != (q.length : Int)) = true := by simp; omega
        have hrL : rowLeft q.length r t = -1 := by unfold rowLeft; rw [if_neg hlen, properL_neg _ (by omega)]
        rw [hrL, if_pos (by omega)] at Q3
        have Q : Hid (Ending.returned (.int .i64 i) = Ending.returned (.int .i64 (wrongP (argFrom q.length (m ++ [q]) 0 150))) ∧ Below w.heap.size w wr) := ⟨by rw [Q3.out]; rfl, Q1.out⟩
        clear Q3 Q1 Q2 hrow hrL hlen
        go_wp2
        go_ret
        exact Q.out
    · have hi' : ¬ (i : Int) < m.length := by omega
      obtain rfl : i = m.length := by omega
      have hgi : (m ++ [q])[m.length]'(by simp) = q := by simp
      have hrL : rowLeft q.length q t = properL q t := by unfold rowLeft; rw [if_pos rfl]
      rw [hgi, hrL, q3] at hdr
      have hd1 : (m ++ [q]).drop (m.length + 1) = [] := List.drop_eq_nil_of_le (by simp)
      rw [hd1] at hdr
      have Hcall : Hid _ := takes_any w w.heap.size q p' cap' t wr HQ.out ht0 (by omega) q1 (Nat.le_refl _) q2
      generalize hR : properL q t = R at *
      clear hgi hrL hd1 q1 q2 q3
      by_cases hR0 : 0 ≤ R
      · rw [if_neg (by omega), argFrom] at hdr
        have Hdec : Hid (decide (0 ≤ R) = true) := decide_eq_true hR0
        have Q : Hid (∀ w4, Below w.heap.size w w4 → Ending.returned (.int .i64 (-1)) = Ending.returned (.int .i64 (wrongP (argFrom q.length (m ++ [q]) 0 150))) ∧ Below w.heap.size w w4) := fun w4 h4 => ⟨by rw [hdr]; rfl, h4⟩
        clear hdr hR
        go_wp2_with (go_at_call 22; refine Calls.mono Hcall.out ?_; clear Hcall; rintro e8 w4 ⟨he, h4, h5⟩; rw [Hdec.out] at he; subst he)
        go_ret
        exact Q.out _ h4
      · rw [if_pos (by omega)] at hdr
        have Hdec : Hid (decide (0 ≤ R) = false) := decide_eq_false hR0
        have Q : Hid (∀ w4, Below w.heap.size w w4 → Ending.returned (.int .i64 (m.length : Int)) = Ending.returned (.int .i64 (wrongP (argFrom q.length (m ++ [q]) 0 150))) ∧ Below w.heap.size w w4) := fun w4 h4 => ⟨by rw [hdr]; rfl, h4⟩
        clear hdr hR
        go_wp2_with (go_at_call 22; refine Calls.mono Hcall.out ?_; clear Hcall; rintro e8 w4 ⟨he, h4, h5⟩; rw [Hdec.out] at he; subst he)
        go_ret
        exact Q.out _ h4
end
end Go.Proofs.Ytjhfomfaddfklaa
