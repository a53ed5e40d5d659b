/-
  The program's layer matches: is there a line that matches everything?
-/
import Derived.Test.YtjhfomfaddfklaaV1
namespace Go.Proofs.Ytjhfomfaddfklaa
open Go.RowKit Go.Deep
def hasNil (m : List (List Pt)) : Bool := m.any fun l => decide (l.length = 0)
inductive IdxPost (t : Bool) (w : World) (e : Ending) (w' : World) : Prop
  | mk (r : Int) (he : e = .returned (.int .i64 r)) (ht : t = decide (0 ≤ r)) (hr : -1 ≤ r) (hw : Below w.heap.size w w') : IdxPost t w e w'
section
set_option maxHeartbeats 8000000
set_option maxRecDepth 100000
theorem index_lines (wb w : World) (p : Option Addr) (cap : Nat) (m : List (List Pt)) (hp : LinesAt wb w p m) :
    Calls Try.prog 41 #[.slice p m.length cap, .func (.func 26) #[] #[]] w fun e w' => IdxPost (hasNil m) w e w' := by
  have Hp : Hid (LinesAt wb w p m) := hp
  have hml := hp.len
  unfold maxLen at hml
  clear hp
  go_enter Try.func41, Try.ntmps41
  go_wp2_with fail
  go_loopg [8] m.length (fun g iv wr => ∃ (i : Nat), iv = .int .i64 i ∧ i ≤ m.length ∧ g = m.length - i ∧ wr = w ∧ Hid (hasNil (m.take i) = false))
  case atStart => exact ⟨0, rfl, by omega, by omega, rfl, by unfold Hid; simp [hasNil]⟩
  case round =>
    obtain ⟨i, rfl, hi1, rfl, rfl, HL⟩ := hrel
    by_cases hi : i < m.length
    · have hi' : (i : Int) < m.length := by omega
      obtain ⟨b, o, q, qc, rfl, hcell, _, _, hline⟩ := Hp.out.get i hi
      have hbl := World.block_lt_of_cell? _ _ hcell
      have htk : hasNil (m.take (i + 1)) = (hasNil (m.take i) || decide ((m[i]'hi).length = 0)) := by
        unfold hasNil
        rw [List.take_succ_eq_append_getElem hi, List.any_append]
        simp
      have hin : (m[i]'hi) ∈ m := List.getElem_mem hi
      generalize m[i]'hi = r at *
      have Hcall : Hid _ := matchesAll_any wr q r.length qc
      by_cases hr : r.length = 0
      · have Q : Hid (IdxPost (hasNil m) wr (.returned (.int .i64 i)) wr) := IdxPost.mk i rfl (by
          have h1 : hasNil m = true := by
            unfold hasNil
            rw [List.any_eq_true]
            exact ⟨r, hin, by simp [hr]⟩
          rw [h1, decide_eq_true (by omega)]) (by omega) (Below.refl _ _)
        rw [hr] at Hcall hcell
        rw [decide_eq_true rfl] at Hcall
        clear htk hline hin hr HL
        go_wp2_with fail
        refine Calls.mono Hcall.out ?_
        rintro e1 w1 ⟨rfl, rfl⟩
        clear Hcall
        go_wp2
        go_ret
        exact Q.out
      · have Q : Hid (hasNil (m.take (i + 1)) = false) := by
          unfold Hid
          rw [htk, HL.out]
          simp [hr]
        rw [decide_eq_false hr] at Hcall
        clear htk hline hin hr HL
        go_wp2_with fail
        refine Calls.mono Hcall.out ?_
        rintro e1 w1 ⟨rfl, rfl⟩
        clear Hcall
        go_wp2
        go_roundg (m.length - (i + 1))
        case measure => omega
        case rel => exact ⟨i + 1, by first | rfl | (congr 1; omega) | go_num, by omega, rfl, rfl, Q.out⟩
    · have hi' : ¬ (i : Int) < m.length := by omega
      have Q : Hid (IdxPost (hasNil m) wr (.returned (.int .i64 (-1))) wr) := IdxPost.mk (-1) rfl (by
        have := HL.out
        rw [List.take_of_length_le (by omega)] at this
        rw [this]
        rfl) (by omega) (Below.refl _ _)
      clear HL
      go_wp2
      go_ret
      exact Q.out
theorem contains_lines (wb w : World) (p : Option Addr) (cap : Nat) (m : List (List Pt)) (hp : LinesAt wb w p m) :
    Calls Try.prog 25 #[.slice p m.length cap, .func (.func 26) #[] #[]] w fun e w' => e = .returned (.bool (hasNil m)) ∧ Below w.heap.size w w' := by
  have Hcall : Hid _ := index_lines wb w p cap m hp
  clear hp
  go_enter Try.func25, Try.ntmps25
  go_wp2_with fail
  refine Calls.mono Hcall.out ?_
  rintro e1 w1 ⟨r, rfl, hr, hr1, hb1⟩
  clear Hcall
  have Hr : Hid (hasNil m = decide (0 ≤ r)) := hr
  clear hr
  go_wp2
  go_ret
  rw [Hr.out]
  exact ⟨rfl, hb1⟩
end
end Go.Proofs.Ytjhfomfaddfklaa
