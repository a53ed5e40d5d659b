/-
  The document's layer matches: Useful.
-/
import Derived.Test.YtjhfomfaddfklaaME
namespace Go.Proofs.Ytjhfomfaddfklaa
open Go.RowKit Go.Deep
theorem argFrom_drop (len : Nat) (l : List (List Pt)) (i : Nat) (hi : i < l.length) (left : Int) : argFrom len (l.drop i) i left = if rowLeft len (l[i]'hi) left < 0 then some i else argFrom len (l.drop (i + 1)) (i + 1) (rowLeft len (l[i]'hi) left) := by
  rw [List.drop_eq_getElem_cons hi, argFrom]
def ansOf (m : List (List Pt)) (q : List Pt) : Option Nat → Bool × Int × Int
  | some i => (false, 21, (i : Int))
  | none => (usefulF 151 m q, 0, 0)
theorem ans_eq (m : List (List Pt)) (q : List Pt) : usefulAns m q = ansOf m q (argFrom q.length (m ++ [q]) 0 150) := by
  unfold usefulAns
  cases argFrom q.length (m ++ [q]) 0 150 <;> rfl
section
set_option maxHeartbeats 8000000
set_option maxRecDepth 100000
theorem useful_nil (m : List (List Pt)) (p : Option Addr) (cap : Nat) (p' : Option Addr) (cap' : Nat) (w : World) : Calls Try.prog 21 #[.slice p m.length cap, .slice p' 0 cap'] w fun e w' => e = .returned (.bool (usefulF 151 m [])) ∧ Below w.heap.size w w' := by
  have hU : usefulF 151 m [] = ((m.length : Int) == 0) := by rw [nat_beq_zero]; rfl
  rw [hU]
  clear hU
  go_enter Try.func21, Try.ntmps21
  go_wp2
  go_ret
  exact ⟨rfl, Below.refl _ _⟩
theorem useful_top (wb w : World) (m : List (List Pt)) (q : List Pt) (p : Option Addr) (cap : Nat) (p' : Option Addr) (cap' : Nat) (hw : Below wb.heap.size wb w) (hM : MatAt wb w p m) (hQ : RowAt wb w p' q) (hc : m.length ≤ cap) (hc' : q.length ≤ cap') (h : argFrom q.length (m ++ [q]) 0 150 = none) :
    Calls Try.prog 21 #[.slice p m.length cap, .slice p' q.length cap'] w fun e w' => e = .returned (.bool (usefulF 151 m q)) ∧ Below w.heap.size w w' := by
  by_cases hq : q = []
  · subst hq
    exact useful_nil m p cap p' cap' w
  · obtain ⟨h1, h2, h3, h4⟩ := arg_rect h hq
    exact useful_any wb 151 q m p cap p' cap' w h3 (by omega) h1 h2 hc hc' hw hM hQ
theorem Useful_any (wb w : World) (m : List (List Pt)) (q : List Pt) (p : Option Addr) (cap : Nat) (p' : Option Addr) (cap' : Nat) (hw : Below wb.heap.size wb w) (hM : MatAt wb w p m) (hQ : RowAt wb w p' q) (hc : m.length ≤ cap) (hc' : q.length ≤ cap') (hml : m.length < 9223372036854775807) :
    Calls Try.prog 12 #[.slice p m.length cap, .slice p' q.length cap'] w fun e w' => e = .returned (.tuple #[.bool (usefulAns m q).1, .agg #[.int .i64 (usefulAns m q).2.1, .int .i64 (usefulAns m q).2.2]]) ∧ Below w.heap.size w w' := by
  have Hfb : Hid ((w.alloc (Obj.cells #[Value.int IntKind.i64 0, Value.int IntKind.i64 0] 31)).heap[w.heap.size]? = some (Obj.cells #[Value.int IntKind.i64 0, Value.int IntKind.i64 0] 31)) := (MapKept.heap_alloc w _).1
  have Hba : Hid (Below w.heap.size w (w.alloc (Obj.cells #[Value.int IntKind.i64 0, Value.int IntKind.i64 0] 31))) := (Below.refl _ _).alloc (Nat.le_refl _) _
  have HM : Hid (MatAt _ _ _ _) := hM.below Hba.out
  have HQ : Hid (RowAt _ _ _ _) := hQ.below Hba.out
  have HW : Hid (Below wb.heap.size wb (w.alloc (Obj.cells #[Value.int IntKind.i64 0, Value.int IntKind.i64 0] 31))) := Below.trans hw (Below.mono Hba.out hw.size)
  rw [ans_eq]
  have Htop : Hid (∀ wx, Below wb.heap.size wb wx → MatAt wb wx p m → RowAt wb wx p' q → argFrom q.length (m ++ [q]) 0 150 = none → _) := fun wx h1 h2 h3 h4 => useful_top wb wx m q p cap p' cap' h1 h2 h3 hc hc' h4
  obtain ⟨A, hA⟩ : ∃ A, argFrom q.length (m ++ [q]) 0 150 = A := ⟨_, rfl⟩
  have HA : Hid (argFrom q.length ((m ++ [q]).drop 0) 0 150 = A) := by unfold Hid; rw [List.drop_zero]; exact hA
  rw [hA] at Htop ⊢
  have hql := hQ.len
  unfold maxLen at hql
  clear hM hQ hw hA
  go_enter Try.func12, Try.ntmps12
  go_wp2_with fail
  generalize w.alloc (Obj.cells #[Value.int IntKind.i64 0, Value.int IntKind.i64 0] 31) = w1 at *
  go_loopg [6, 7] (m.length + 1) (fun g lv iv wr => ∃ (i : Nat) (l : Int), lv = .int .i64 l ∧ iv = .int .i64 i ∧ i ≤ m.length + 1 ∧ g = m.length + 1 - i ∧ 0 ≤ l ∧ l ≤ 150 ∧ Hid (argFrom q.length ((m ++ [q]).drop i) i l = A ∧ Below w1.heap.size w1 wr))
  case atStart => exact ⟨0, 150, rfl, rfl, by omega, by omega, by omega, by omega, HA.out, Below.refl _ _⟩
  case round =>
    clear HA
    obtain ⟨i, l, rfl, rfl, hi1, rfl, hl0, hl1, HJ⟩ := hrel
    obtain ⟨t1, t2⟩ := HJ.out
    clear HJ
    have hWr : Below wb.heap.size wb wr := Below.trans HW.out (t2.mono (Below.size HW.out))
    have hMr := MatAt.below HM.out t2
    have hQr := RowAt.below HQ.out t2
    by_cases hi : i ≤ m.length
    · have hi' : (i : Int) ≤ m.length := by omega
      have hil : i < (m ++ [q]).length := by simp; omega
      rw [argFrom_drop q.length (m ++ [q]) i hil] at t1
      have T1 : Hid _ := t1
      have T2 : Hid (Below w1.heap.size w1 wr) := t2
      obtain ⟨row, hrow⟩ : ∃ row, (m ++ [q])[i]'hil = row := ⟨_, rfl⟩
      rw [hrow] at T1
      have Hrow : Hid ((m ++ [q])[i]'hil = row) := hrow
      have HMr : Hid _ := hMr
      have HQr : Hid _ := hQr
      have HWr : Hid _ := hWr
      clear t1 t2 hrow hMr hQr hWr
      go_upto_if 20 with fail
      go_cut [8] from 10 to 49 (fun v wx => Hid (∃ z zc, v = .slice z row.length zc ∧ RowAt wb wr z row ∧ wx = wr))
      case first =>
        by_cases him : i < m.length
        · have him' : (i : Int) < m.length := by omega
          obtain ⟨b2, o2, z, zc, hp, hcell, hzc, hrowr⟩ := HMr.out.get i him
          subst hp
          have hre : m[i]'him = row := by rw [← Hrow.out, List.getElem_append_left him]
          rw [hre] at hcell hzc hrowr
          have hbl := World.block_lt_of_cell? _ _ hcell
          have HRR : Hid _ := hrowr
          clear hrowr hre
          go_wp2
          go_meet
          exact ⟨z, zc, rfl, HRR.out, rfl⟩
        · have him' : ¬ (i : Int) < m.length := by omega
          have hre : q = row := by
            rw [← Hrow.out, List.getElem_append_right (by omega)]
            simp
          subst hre
          go_wp2
          go_meet
          exact ⟨p', cap', rfl, HQr.out, rfl⟩
      case rest =>
        obtain ⟨z, zc, rfl, hrr, hw9⟩ := hcut.out
        clear hcut
        have hw9 := hw9.symm
        subst hw9
        have HRR : Hid (RowAt wb wr z row) := hrr
        have hrl := hrr.len
        unfold maxLen at hrl
        clear hrr
        obtain ⟨l2, hl2⟩ : ∃ l2, (if row.length = q.length then l else -1) = l2 := ⟨_, rfl⟩
        have HL2 : Hid ((if row.length = q.length then l else -1) = l2) := hl2
        have hl2b : l2 ≤ 150 := by rw [← hl2]; split <;> omega
        clear hl2
        go_upto_if 29 with fail
        go_cut [6] from 10 to 49 (fun v wx => Hid (v = .int .i64 l2 ∧ wx = wr))
        case first =>
          by_cases hle : row.length = q.length
          · have e : l2 = l := by rw [← HL2.out, if_pos hle]
            have hle' : ((row.length : Int) != (q.length : Int)) = false := by rw [bne_eq_false_iff_eq]; omega
            subst e
            clear hle
            go_wp2
            go_meet
            exact ⟨rfl, rfl⟩
          · have e : l2 = -1 := by rw [← HL2.out, if_neg hle]
            have hle' : ((row.length : Int) != (q.length : Int)) = true := by rw [bne_iff_ne]; omega
            subst e
            clear hle
            go_wp2
            go_meet
            exact ⟨rfl, rfl⟩
        case rest =>
          obtain ⟨rfl, hw9⟩ := hcut.out
          clear hcut
          have hw9 := hw9.symm
          subst hw9
          obtain ⟨F, hF⟩ : ∃ F, properL row l2 = F := ⟨_, rfl⟩
          have HF : Hid (properL (row.drop 0) l2 = F) := by unfold Hid; rw [List.drop_zero]; exact hF
          have HrL : Hid (rowLeft q.length row l = F) := by unfold Hid rowLeft; rw [HL2.out]; exact hF
          have hFb : F ≤ 150 := by have := properL_le row l2; omega
          clear hF HL2
          go_upto_block 2 with fail
          go_cut [6] from 10 to 49 (fun v wx => Hid (v = .int .i64 F ∧ Below wr.heap.size wr wx))
          case first =>
            go_wp2_with fail
            go_loopg [6, 9] row.length (fun g lv iv wy => ∃ (j : Nat) (l3 : Int), lv = .int .i64 l3 ∧ iv = .int .i64 j ∧ j ≤ row.length ∧ g = row.length - j ∧ l3 ≤ 150 ∧ Hid (properL (row.drop j) l3 = F ∧ Below wr.heap.size wr wy))
            case atStart => exact ⟨0, l2, rfl, rfl, by omega, by omega, hl2b, HF.out, Below.refl _ _⟩
            case round =>
              obtain ⟨j, l3, rfl, rfl, hj1, rfl, hl3, HJ⟩ := hrel
              obtain ⟨s1, s2⟩ := HJ.out
              clear HJ
              rename World => wy
              by_cases hj : j < row.length
              · have hj' : (j : Int) < row.length := by omega
                by_cases hl : 0 ≤ l3
                · obtain ⟨g, go, cj, hz, hcj, hPj⟩ := HRR.out.get j hj
                  subst hz
                  have hWy : Below wb.heap.size wb wy := Below.trans HWr.out (s2.mono (Below.size HWr.out))
                  have hcall := proper_any wb cj (row[j]'hj) hPj l3 wy (by omega) (by omega) hWy
                  have Hcall : Hid _ := hcall
                  have hle := properP_le (row[j]'hj) l3
                  rw [properL_drop row j hj, if_pos hl] at s1
                  have S1 : Hid (properL (row.drop (j + 1)) (properP (row[j]'hj) l3) = F) := s1
                  have S2 : Hid (Below wr.heap.size wr wy) := s2
                  obtain ⟨d0, d1, d2, d3, d4, d5⟩ := hcj.below s2
                  have hbl := World.block_lt_of_cell? _ _ d0
                  generalize properP (row[j]'hj) l3 = l4 at *
                  obtain ⟨ek, en, eo, ea, es, ep, el, ec⟩ := cj
                  simp only [PC.val] at *
                  clear s1 s2 hcall hWy hPj hcj
                  go_wp2_with fail
                  refine Calls.mono Hcall.out ?_
                  rintro e8 w8 ⟨rfl, hb8⟩
                  have Q : Hid (properL (row.drop (j + 1)) l4 = F ∧ Below wr.heap.size wr w8) := ⟨S1.out, Below.then S2.out hb8 (Nat.le_refl _)⟩
                  clear hb8 Hcall d0 d1 d2 d3 d4 d5
                  go_wp2
                  go_roundg (row.length - (j + 1))
                  case measure => omega
                  case rel => exact ⟨j + 1, l4, rfl, by first | rfl | (congr 1; omega) | go_num, by omega, rfl, by omega, Q⟩
                · have e : l3 = F := by rw [← s1, properL_neg _ (by omega)]
                  subst e
                  have Q : Hid (Below wr.heap.size wr wy) := s2
                  clear s1 s2
                  go_wp2
                  go_meet
                  exact ⟨rfl, Q.out⟩
              · have hj' : ¬ (j : Int) < row.length := by omega
                have e : l3 = F := by rw [← s1, List.drop_eq_nil_of_le (by omega), properL]
                subst e
                have Q : Hid (Below wr.heap.size wr wy) := s2
                clear s1 s2
                go_wp2
                go_meet
                exact ⟨rfl, Q.out⟩
          case rest =>
            obtain ⟨rfl, hb9⟩ := hcut.out
            clear hcut HF
            rename World => w9
            rw [HrL.out] at T1
            have h19 : Below w1.heap.size w1 w9 := Below.then T2.out hb9 (Nat.le_refl _)
            have H19 : Hid _ := h19
            clear hb9
            by_cases hneg : F < 0
            · have hA : A = some i := by rw [← T1.out, if_pos hneg]
              subst hA
              have hfb9 := (h19.block w.heap.size (Array.getElem?_eq_some_iff.1 Hfb.out).1).trans Hfb.out
              have hfl := (Array.getElem?_eq_some_iff.1 hfb9).1
              have f0 : w9.cell? ⟨w.heap.size, 0, none⟩ = some (.int .i64 0) := by simp [World.cell?, hfb9]
              have f1 : w9.cell? ⟨w.heap.size, 1, none⟩ = some (.int .i64 0) := by simp [World.cell?, hfb9]
              have g0 : w9.frozen? ⟨w.heap.size, 0, none⟩ = false := by simp [World.frozen?, hfb9]
              have g1 : w9.frozen? ⟨w.heap.size, 1, none⟩ = false := by simp [World.frozen?, hfb9]
              have r0 : ((w9.setCell ⟨w.heap.size, 0, none⟩ (.int .i64 21)).setCell ⟨w.heap.size, 1, none⟩ (.int .i64 i)).cell? ⟨w.heap.size, 0, none⟩ = some (.int .i64 21) ∧ ((w9.setCell ⟨w.heap.size, 0, none⟩ (.int .i64 21)).setCell ⟨w.heap.size, 1, none⟩ (.int .i64 i)).cell? ⟨w.heap.size, 1, none⟩ = some (.int .i64 i) := by
                constructor <;> simp [World.cell?, World.setCell, Array.getElem?_modify, hfb9]
              have HR0 : Hid _ := r0
              have Q : Hid (Below w.heap.size w ((w9.setCell ⟨w.heap.size, 0, none⟩ (.int .i64 21)).setCell ⟨w.heap.size, 1, none⟩ (.int .i64 i))) := ((Below.then Hba.out h19 (Nat.le_refl _)).setCell (p := ⟨w.heap.size, 0, none⟩) (Nat.le_refl _) _).setCell (p := ⟨w.heap.size, 1, none⟩) (Nat.le_refl _) _
              clear r0 h19 hfb9
              go_wp2
              obtain ⟨r0, r1⟩ := HR0.out
              refine bodyPost_ret (v := .tuple #[.bool false, .agg #[.int .i64 21, .int .i64 i]]) ?_ rfl ⟨rfl, Q.out⟩
              simp [results, Try.results12, go_sem, r0, r1]
            · have Q : Hid (argFrom q.length ((m ++ [q]).drop (i + 1)) (i + 1) F = A ∧ Below w1.heap.size w1 w9) := ⟨by rw [← T1.out, if_neg hneg], h19⟩
              have hneg' : ¬ F < 0 := hneg
              clear h19
              go_wp2
              go_roundg (m.length + 1 - (i + 1))
              case measure => omega
              case rel => exact ⟨i + 1, F, rfl, by first | rfl | (congr 1; omega) | go_num, by omega, by omega, by omega, hFb, Q⟩
    · have hi' : ¬ (i : Int) ≤ m.length := by omega
      have hA : A = none := by rw [← t1, List.drop_eq_nil_of_le (by simp; omega), argFrom]
      subst hA
      have Hcall : Hid _ := Htop.out wr hWr hMr hQr rfl
      have hfb9 := (t2.block w.heap.size (Array.getElem?_eq_some_iff.1 Hfb.out).1).trans Hfb.out
      have T2 : Hid (Below w1.heap.size w1 wr) := t2
      have Hfb9 : Hid (wr.heap[w.heap.size]? = some (Obj.cells #[Value.int IntKind.i64 0, Value.int IntKind.i64 0] 31)) := hfb9
      clear t1 t2 hWr hMr hQr hfb9
      go_wp2_with fail
      refine Calls.mono Hcall.out ?_
      rintro e8 w9 ⟨rfl, hb9⟩
      have hfb9 := (hb9.block w.heap.size (Array.getElem?_eq_some_iff.1 Hfb9.out).1).trans Hfb9.out
      have hfl := (Array.getElem?_eq_some_iff.1 hfb9).1
      have f0 : w9.cell? ⟨w.heap.size, 0, none⟩ = some (.int .i64 0) := by simp [World.cell?, hfb9]
      have f1 : w9.cell? ⟨w.heap.size, 1, none⟩ = some (.int .i64 0) := by simp [World.cell?, hfb9]
      have g0 : w9.frozen? ⟨w.heap.size, 0, none⟩ = false := by simp [World.frozen?, hfb9]
      have g1 : w9.frozen? ⟨w.heap.size, 1, none⟩ = false := by simp [World.frozen?, hfb9]
      have r0 : ((w9.setCell ⟨w.heap.size, 0, none⟩ (.int .i64 0)).setCell ⟨w.heap.size, 1, none⟩ (.int .i64 0)).cell? ⟨w.heap.size, 0, none⟩ = some (.int .i64 0) ∧ ((w9.setCell ⟨w.heap.size, 0, none⟩ (.int .i64 0)).setCell ⟨w.heap.size, 1, none⟩ (.int .i64 0)).cell? ⟨w.heap.size, 1, none⟩ = some (.int .i64 0) := by
        constructor <;> simp [World.cell?, World.setCell, Array.getElem?_modify, hfb9]
      have HR0 : Hid _ := r0
      have Q : Hid (Below w.heap.size w ((w9.setCell ⟨w.heap.size, 0, none⟩ (.int .i64 0)).setCell ⟨w.heap.size, 1, none⟩ (.int .i64 0))) := ((Below.then (Below.then Hba.out T2.out (Nat.le_refl _)) hb9 (Nat.le_refl _)).setCell (p := ⟨w.heap.size, 0, none⟩) (Nat.le_refl _) _).setCell (p := ⟨w.heap.size, 1, none⟩) (Nat.le_refl _) _
      clear r0 hfb9 hb9 Hcall
      go_wp2
      obtain ⟨r0, r1⟩ := HR0.out
      refine bodyPost_ret (v := .tuple #[.bool (usefulF 151 m q), .agg #[.int .i64 0, .int .i64 0]]) ?_ rfl ⟨rfl, Q.out⟩
      simp [results, Try.results12, go_sem, r0, r1]
end
end Go.Proofs.Ytjhfomfaddfklaa
