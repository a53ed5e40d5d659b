/-
  The program's reader of bytes: what it has in memory; how many bytes are left (left); a refusal (refuse); the next bytes (take).
-/
import Derived.Test.YtimdjcffmajmnaaDoorC15
namespace Go.Proofs.YtimdjcffmajmnaaDoor
open Go.RowKit Go.Deep
/-- An error, as the program's reader tells it. -/
def evR (k a : Int) : Value := if k = 0 then .nilIface else .iface 63 (.agg #[.int .i64 k, .int .i64 a])
/-- The reader's own cells. -/
def PBox (w : World) (rp : Nat) (S : ByteArray) (pos : Int) : Prop := w.heap[rp]? = some (.cells #[.string S, .int .i64 pos] 57)
theorem PBox.lt {w : World} {rp : Nat} {S : ByteArray} {pos : Int} (h : PBox w rp S pos) : rp < w.heap.size := (Array.getElem?_eq_some_iff.1 h).1
theorem PBox.kp {X : List Nat} {w w' : World} {rp : Nat} {S : ByteArray} {pos : Int} (h : PBox w rp S pos) (hk : Kp X w w') (hx : rp ∉ X) : PBox w' rp S pos := (hk.block rp h.lt hx).trans h
theorem PBox.cells {w : World} {rp : Nat} {S : ByteArray} {pos : Int} (h : PBox w rp S pos) : w.cell? ⟨rp, 0, none⟩ = some (.string S) ∧ w.cell? ⟨rp, 1, none⟩ = some (.int .i64 pos) ∧ w.frozen? ⟨rp, 1, none⟩ = false ∧ rp < w.heap.size := by
  have h2 := h.lt
  unfold PBox at h
  refine ⟨?_, ?_, ?_, h2⟩ <;> simp [World.cell?, World.frozen?, h]
theorem PBox.move {w : World} {rp : Nat} {S : ByteArray} {pos : Int} (h : PBox w rp S pos) (pos' : Int) : PBox (w.setCell ⟨rp, 1, none⟩ (.int .i64 pos')) rp S pos' := by
  unfold PBox at *
  simp [World.setCell, Array.getElem?_modify, h]
section
set_option maxHeartbeats 8000000
set_option maxRecDepth 100000
theorem refuse_any (k a : Int) (w : World) : Calls Tryd.prog 41 #[.int .i64 k, .int .i64 a] w fun e w' => e = .returned (.iface 63 (.agg #[.int .i64 k, .int .i64 a])) ∧ w' = w := by
  go_enter Tryd.func41, Tryd.ntmps41
  go_wp2
  go_ret
  exact ⟨rfl, rfl⟩
theorem left_any (w : World) (rp : Nat) (S : ByteArray) (pos : Nat) (h : PBox w rp S pos) (hS : S.size ≤ 2 ^ 50) (hp : pos ≤ 2 ^ 50) : Calls Tryd.prog 40 #[.pointer (some ⟨rp, 0, none⟩)] w fun e w' => e = .returned (.int .i64 ((S.size : Int) - pos)) ∧ Kp [] w w' := by
  obtain ⟨c0, c1, c2, c3⟩ := h.cells
  clear h
  go_enter Tryd.func40, Tryd.ntmps40
  go_wp2_with fail
  go_quiet (fail)
  go_wp2
  go_ret
  exact ⟨rfl, (Kp.refl [] _).drewN nq⟩
theorem take_short (w : World) (rp : Nat) (S : ByteArray) (pos n : Nat) (h : PBox w rp S pos) (hS : S.size ≤ 4000000) (hp : pos ≤ 4000000) (hgt : (S.size : Int) - pos < n) : Calls Tryd.prog 56 #[.pointer (some ⟨rp, 0, none⟩), .int .i64 n] w fun e w' => e = .returned (.tuple #[.string { data := #[] }, .iface 63 (.agg #[.int .i64 16, .int .i64 S.size])]) ∧ PBox w' rp S pos ∧ Kp [rp] w w' := by
  have H : Hid (PBox w rp S pos) := h
  have Hl : Hid _ := left_any w rp S pos h (by omega) (by omega)
  clear h
  go_enter Tryd.func56, Tryd.ntmps56
  go_wp2_with fail
  refine Calls.mono Hl.out ?_
  rintro e1 w1 ⟨rfl, hk1⟩
  have Hk1 : Hid (Kp [] w w1) := hk1
  obtain ⟨c0, c1, c2, c3⟩ := PBox.cells (PBox.kp H.out hk1 (by simp))
  have Hr : Hid _ := refuse_any 16 S.size w1
  have hd : decide ((S.size : Int) - pos < n) = true := decide_eq_true hgt
  clear hk1 Hl
  go_wp2_with fail
  refine Calls.mono Hr.out ?_
  rintro e2 w2 ⟨rfl, rfl⟩
  clear c0 c1 c2 c3 Hr
  go_wp2
  exact bodyPost_ret (v := .tuple #[.string { data := #[] }, .iface 63 (.agg #[.int .i64 16, .int .i64 S.size])]) (by simp [results, Tryd.results56, go_sem]) rfl ⟨rfl, PBox.kp H.out Hk1.out (by simp), Kp.mono Hk1.out (by simp)⟩
theorem take_ok (w : World) (rp : Nat) (S : ByteArray) (pos n : Nat) (h : PBox w rp S pos) (hS : S.size ≤ 4000000) (hgt : pos + n ≤ S.size) : Calls Tryd.prog 56 #[.pointer (some ⟨rp, 0, none⟩), .int .i64 n] w fun e w' => e = .returned (.tuple #[.string (S.extract pos (pos + n)), .nilIface]) ∧ PBox w' rp S ((pos : Int) + n) ∧ Kp [rp] w w' := by
  have H : Hid (PBox w rp S pos) := h
  have Hl : Hid _ := left_any w rp S pos h (by omega) (by omega)
  clear h
  go_enter Tryd.func56, Tryd.ntmps56
  go_wp2_with fail
  refine Calls.mono Hl.out ?_
  rintro e1 w1 ⟨rfl, hk1⟩
  have Hk1 : Hid (Kp [] w w1) := hk1
  have H1 : Hid (PBox w1 rp S pos) := PBox.kp H.out hk1 (by simp)
  obtain ⟨c0, c1, c2, c3⟩ := PBox.cells H1.out
  have hd : decide ((S.size : Int) - pos < n) = false := decide_eq_false (by omega)
  have hle : (pos : Int) + n ≤ S.size := by omega
  have hp0 : (0 : Int) ≤ pos := by omega
  have hp1 : (pos : Int) ≤ (pos : Int) + n := by omega
  clear hk1 Hl
  go_wp2_with fail
  go_quiet (fail)
  have Hf : Hid (PBox ((w1.drewN nq).setCell ⟨rp, 1, none⟩ (.int .i64 ((pos : Int) + n))) rp S ((pos : Int) + n) ∧ Kp [rp] w ((w1.drewN nq).setCell ⟨rp, 1, none⟩ (.int .i64 ((pos : Int) + n)))) :=
    ⟨(PBox.kp H1.out ((Kp.refl [] _).drewN nq) (by simp)).move _, (Kp.mono Hk1.out (by simp)).trans (((Kp.refl _ _).drewN nq).trans (Kp.setCell _ ⟨rp, 1, none⟩ (by simp) _))⟩
  go_wp2
  exact bodyPost_ret (v := .tuple #[.string (S.extract pos (pos + n)), .nilIface]) (by simp [results, Tryd.results56, go_sem]) rfl ⟨rfl, Hf.out⟩
end
end Go.Proofs.YtimdjcffmajmnaaDoor
