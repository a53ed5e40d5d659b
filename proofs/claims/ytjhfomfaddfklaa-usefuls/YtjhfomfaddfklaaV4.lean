/-
  The program's layer matches: the first row that may not be (wrongRow).
-/
import Derived.Test.YtjhfomfaddfklaaV3
namespace Go.Proofs.Ytjhfomfaddfklaa
open Go.RowKit Go.Deep
theorem RowAt.rebase {wb w : World} {p : Option Addr} {l : List Pt} (h : RowAt wb w p l) (hb : Below wb.heap.size wb w) : RowAt w w p l :=
  ⟨h.len, fun i hi => by
    obtain ⟨b, o, c, h1, h2, h3⟩ := h.get i hi
    exact ⟨b, o, c, h1, h2, h3.keep hb⟩⟩
theorem MatAt.rebase {wb w : World} {p : Option Addr} {m : List (List Pt)} (h : MatAt wb w p m) (hb : Below wb.heap.size wb w) : MatAt w w p m :=
  ⟨h.len, fun i hi => by
    obtain ⟨b, o, q, cap, h1, h2, h3, h4⟩ := h.get i hi
    exact ⟨b, o, q, cap, h1, h2, h3, h4.rebase hb⟩⟩
/-- The number that is told of the first row that may not be. -/
def wrongP : Option Nat → Int
  | some i => i
  | none => -1
theorem room_new (w : World) (n : Int) : RoomBox (w.alloc (.cells #[.int .i64 n] 49)) w.heap.size n := (MapKept.heap_alloc w _).1
section
set_option maxHeartbeats 8000000
set_option maxRecDepth 100000
theorem wrong_any (w : World) (m : List (List Pt)) (q : List Pt) (p : Option Addr) (cap : Nat) (p' : Option Addr) (cap' : Nat) (hM : MatAt w w p m) (hQ : RowAt w w p' q) :
    Calls Try.prog 13 #[.slice p m.length cap, .slice p' q.length cap'] w fun e w' => e = .returned (.int .i64 (wrongP (argFrom q.length (m ++ [q]) 0 150))) ∧ Below w.heap.size w w' := by
  have HM : Hid (MatAt w w p m) := hM
  have HQ : Hid (RowAt w w p' q) := hQ
  have hml := hM.len
  unfold maxLen at hml
  have hql := hQ.len
  unfold maxLen at hql
  have hr0 := room_new w 150
  have hb0 : Below w.heap.size w (w.alloc (.cells #[.int .i64 150] 49)) := (Below.refl _ _).alloc (Nat.le_refl _) _
  clear hM hQ
  go_enter Try.func13, Try.ntmps13
  go_wp2_with fail
  generalize w.alloc (.cells #[.int .i64 150] 49) = w0 at *
  go_loopg [11] m.length (fun g iv wr => ∃ (i : Nat) (t : Int), iv = .int .i64 i ∧ i ≤ m.length ∧ g = m.length - i ∧ 0 ≤ t ∧ t ≤ 150 ∧ Hid (Below w.heap.size w wr ∧ RoomBox wr w.heap.size t ∧ argFrom q.length ((m ++ [q]).drop i) i t = argFrom q.length (m ++ [q]) 0 150))
  case atStart => exact ⟨0, 150, rfl, by omega, by omega, by omega, by omega, hb0, hr0, by simp⟩
  case round =>
    obtain ⟨i, t, rfl, hi1, rfl, ht0, ht1, HL⟩ := hrel
    obtain ⟨q1, q2, q3⟩ := HL.out
    clear HL hb0 hr0
    have hdr := argFrom_drop q.length (m ++ [q]) i (by simp; omega) t
    by_cases hi : i < m.length
    · have hi' : (i : Int) < m.length := by omega
      obtain ⟨b, o, z, zc, rfl, hcell, hzc, hrow⟩ := HM.out.get i hi
      have hgi : (m ++ [q])[i]'(by simp; omega) = m[i]'hi := by rw [List.getElem_append_left hi]
      rw [hgi, q3] at hdr
      clear hgi
      generalize m[i]'hi = r at *
      have hcell' := (q1.cell (p := ⟨b, o + i, none⟩) (World.block_lt_of_cell? _ _ hcell)).trans hcell
      have hbl := World.block_lt_of_cell? _ _ hcell'
      have hrl := hrow.len
      unfold maxLen at hrl
      have Q3 : Hid (argFrom q.length (m ++ [q]) 0 150 = _) := hdr
      have Q1 : Hid (Below w.heap.size w wr) := q1
      have Q2 : Hid (RoomBox wr w.heap.size t) := q2
      clear hdr q1 q2 q3 hcell
      by_cases hlen : r.length = q.length
      · have hne : ((r.length : Int) != (q.length : Int)) = false := by simp; omega
        have Hcall : Hid _ := takes_any w w.heap.size r z zc t wr hrow ht0 (by omega) Q1.out (Nat.le_refl _) Q2.out
        have hrL : rowLeft q.length r t = properL r t := by unfold rowLeft; rw [if_pos hlen]
        rw [hrL] at Q3
        generalize hR : properL r t = R at *
        have HR : Hid (R ≤ t ∨ R = -1) := by
          have := properL_le r t
          unfold Hid
          omega
        by_cases hR0 : 0 ≤ R
        · rw [if_neg (by omega)] at Q3
          have Hdec : Hid (decide (0 ≤ R) = true) := decide_eq_true hR0
          have hR1 : R ≤ 150 := by have := HR.out; omega
          clear hrow hR hrL HR hlen
          go_wp2_with (go_at_call 22; refine Calls.mono Hcall.out ?_; clear Hcall; rintro e8 w4 ⟨he, h4, h5⟩; rw [Hdec.out] at he; subst he)
          go_roundg (m.length - (i + 1))
          case measure => omega
          case rel => exact ⟨i + 1, R, by first | rfl | (congr 1; omega) | go_num, by omega, rfl, hR0, hR1, h4, h5 hR0, Q3.out.symm⟩
        · rw [if_pos (by omega)] at Q3
          have Hdec : Hid (decide (0 ≤ R) = false) := decide_eq_false hR0
          clear hrow hR hrL HR hlen
          have Q : Hid (∀ w4, Below w.heap.size w w4 → Ending.returned (.int .i64 i) = Ending.returned (.int .i64 (wrongP (argFrom q.length (m ++ [q]) 0 150))) ∧ Below w.heap.size w w4) := fun w4 h4 => ⟨by rw [Q3.out]; rfl, h4⟩
          clear Q3
          go_wp2_with (go_at_call 22; refine Calls.mono Hcall.out ?_; clear Hcall; rintro e8 w4 ⟨he, h4, h5⟩; rw [Hdec.out] at he; subst he)
          go_ret
          exact Q.out _ h4
      · have hne : ((r.length : Int) != (q.length : Int)) = true := by simp; omega
        have hrL : rowLeft q.length r t = -1 := by unfold rowLeft; rw [if_neg hlen, properL_neg _ (by omega)]
        rw [hrL, if_pos (by omega)] at Q3
        have Q : Hid (Ending.returned (.int .i64 i) = Ending.returned (.int .i64 (wrongP (argFrom q.length (m ++ [q]) 0 150))) ∧ Below w.heap.size w wr) := ⟨by rw [Q3.out]; rfl, Q1.out⟩
        clear Q3 Q1 Q2 hrow hrL hlen
        go_wp2
        go_ret
        exact Q.out
    · have hi' : ¬ (i : Int) < m.length := by omega
      obtain rfl : i = m.length := by omega
      have hgi : (m ++ [q])[m.length]'(by simp) = q := by simp
      have hrL : rowLeft q.length q t = properL q t := by unfold rowLeft; rw [if_pos rfl]
      rw [hgi, hrL, q3] at hdr
      have hd1 : (m ++ [q]).drop (m.length + 1) = [] := List.drop_eq_nil_of_le (by simp)
      rw [hd1] at hdr
      have Hcall : Hid _ := takes_any w w.heap.size q p' cap' t wr HQ.out ht0 (by omega) q1 (Nat.le_refl _) q2
      generalize hR : properL q t = R at *
      clear hgi hrL hd1 q1 q2 q3
      by_cases hR0 : 0 ≤ R
      · rw [if_neg (by omega), argFrom] at hdr
        have Hdec : Hid (decide (0 ≤ R) = true) := decide_eq_true hR0
        have Q : Hid (∀ w4, Below w.heap.size w w4 → Ending.returned (.int .i64 (-1)) = Ending.returned (.int .i64 (wrongP (argFrom q.length (m ++ [q]) 0 150))) ∧ Below w.heap.size w w4) := fun w4 h4 => ⟨by rw [hdr]; rfl, h4⟩
        clear hdr hR
        go_wp2_with (go_at_call 22; refine Calls.mono Hcall.out ?_; clear Hcall; rintro e8 w4 ⟨he, h4, h5⟩; rw [Hdec.out] at he; subst he)
        go_ret
        exact Q.out _ h4
      · rw [if_pos (by omega)] at hdr
        have Hdec : Hid (decide (0 ≤ R) = false) := decide_eq_false hR0
        have Q : Hid (∀ w4, Below w.heap.size w w4 → Ending.returned (.int .i64 (m.length : Int)) = Ending.returned (.int .i64 (wrongP (argFrom q.length (m ++ [q]) 0 150))) ∧ Below w.heap.size w w4) := fun w4 h4 => ⟨by rw [hdr]; rfl, h4⟩
        clear hdr hR
        go_wp2_with (go_at_call 22; refine Calls.mono Hcall.out ?_; clear Hcall; rintro e8 w4 ⟨he, h4, h5⟩; rw [Hdec.out] at he; subst he)
        go_ret
        exact Q.out _ h4
end
end Go.Proofs.Ytjhfomfaddfklaa
