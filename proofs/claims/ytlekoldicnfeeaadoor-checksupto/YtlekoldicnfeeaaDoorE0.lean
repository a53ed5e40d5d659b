/-
  The program's tables: how they lie in memory; what they say of each instruction, beside the document's forms.
-/
import Derived.Test.YtlekoldicnfeeaaDoorC7
namespace Go.Proofs.YtlekoldicnfeeaaDoor
open Go.RowKit Go.Deep
/-- How the operands of each instruction stand in bytes; how many values it takes and puts. -/
def kindT : List Int := [1, 2, 2, 0, 2, 2, 2, 3, 2, 1, 2, 0, 2, 2, 3, 0, 0, 0, 2, 2, 2, 0, 0, 3, 2, 0]
def takeT : List Int := [0, 0, 0, 0, 0, 0, 1, -1, 1, 1, 1, 2, -1, -1, 1, 2, 2, 1, 0, 1, 0, 0, 1, 0, 0, 1]
def putT : List Int := [1, 1, 1, 1, 1, 1, 0, 1, 1, 1, 1, 1, 1, 1, 0, 1, 0, 0, 0, 0, 0, 0, 0, 1, 1, 0]
def kindOf (k : Nat) : Int := (kindT[k]?).getD 0
def takeOf (k : Nat) : Int := (takeT[k]?).getD 0
def putOf (k : Nat) : Int := (putT[k]?).getD 0
def shapeCells : Array Value := ((kindT.zip (takeT.zip putT)).flatMap fun x => [Value.int .i64 x.1, .int .i64 x.2.1, .int .i64 x.2.2]).toArray
def widthT : List Int := [0, 4, 2, 4]
def widthOf (k : Nat) : Int := (widthT[k]?).getD 0
def widthCells : Array Value := (widthT.map fun x => Value.int .i64 x).toArray
def signT : List (List UInt8) := [[43], [45], [42], [47], [37], [60], [60, 61], [62], [62, 61], [61], [60, 62], [94], [33], [58, 61], [126]]
def signCells : Array Value := (signT.map fun l => Value.string { data := l.toArray }).toArray
structure ShIn (w : World) : Prop where
  is : ∃ t fr, w.heap[1]? = some (.cells shapeCells t fr)
structure WdIn (w : World) : Prop where
  is : ∃ t fr, w.heap[0]? = some (.cells widthCells t fr)
structure SgIn (w : World) : Prop where
  is : ∃ t fr, w.heap[3]? = some (.cells signCells t fr)
theorem nats26 (k : Nat) (h : k < 26) : k = 0 ∨ k = 1 ∨ k = 2 ∨ k = 3 ∨ k = 4 ∨ k = 5 ∨ k = 6 ∨ k = 7 ∨ k = 8 ∨ k = 9 ∨ k = 10 ∨ k = 11 ∨ k = 12 ∨ k = 13 ∨ k = 14 ∨ k = 15 ∨ k = 16 ∨ k = 17 ∨ k = 18 ∨ k = 19 ∨ k = 20 ∨ k = 21 ∨ k = 22 ∨ k = 23 ∨ k = 24 ∨ k = 25 := by omega
theorem shape_at (k : Nat) (h : k < 26) : shapeCells[k * 3]? = some (.int .i64 (kindOf k)) ∧ shapeCells[k * 3 + 1]? = some (.int .i64 (takeOf k)) ∧ shapeCells[k * 3 + 2]? = some (.int .i64 (putOf k)) := by
  rcases nats26 k h with rfl | rfl | rfl | rfl | rfl | rfl | rfl | rfl | rfl | rfl | rfl | rfl | rfl | rfl | rfl | rfl | rfl | rfl | rfl | rfl | rfl | rfl | rfl | rfl | rfl | rfl <;> exact ⟨rfl, rfl, rfl⟩
theorem ShIn.lt {w : World} (h : ShIn w) : 1 < w.heap.size := by
  obtain ⟨t, fr, h⟩ := h.is
  exact (Array.getElem?_eq_some_iff.1 h).1
theorem ShIn.cells {w : World} (h : ShIn w) (k : Nat) (hk : k < 26) : w.cell? ⟨1, k * 3, none⟩ = some (.int .i64 (kindOf k)) ∧ w.cell? ⟨1, k * 3 + 1, none⟩ = some (.int .i64 (takeOf k)) ∧ w.cell? ⟨1, k * 3 + 2, none⟩ = some (.int .i64 (putOf k)) := by
  obtain ⟨t, fr, h⟩ := h.is
  obtain ⟨a, b, c⟩ := shape_at k hk
  refine ⟨?_, ?_, ?_⟩ <;> simp [World.cell?, h, a, b, c]
theorem ShIn.of_block {w w' : World} (h : ShIn w) (e : w'.heap[1]? = w.heap[1]?) : ShIn w' := by
  obtain ⟨t, fr, h⟩ := h.is
  exact ⟨⟨t, fr, e.trans h⟩⟩
theorem ShIn.below {w w' : World} (h : ShIn w) (hb : Below w.heap.size w w') : ShIn w' := h.of_block (hb.block 1 h.lt)
theorem WdIn.lt {w : World} (h : WdIn w) : 0 < w.heap.size := by
  obtain ⟨t, fr, h⟩ := h.is
  exact (Array.getElem?_eq_some_iff.1 h).1
theorem WdIn.cell {w : World} (h : WdIn w) (k : Nat) (hk : k < 4) : w.cell? ⟨0, k, none⟩ = some (.int .i64 (widthOf k)) := by
  obtain ⟨t, fr, h⟩ := h.is
  have : k = 0 ∨ k = 1 ∨ k = 2 ∨ k = 3 := by omega
  have e : widthCells[k]? = some (.int .i64 (widthOf k)) := by rcases this with rfl | rfl | rfl | rfl <;> rfl
  simp [World.cell?, h, e]
theorem WdIn.of_block {w w' : World} (h : WdIn w) (e : w'.heap[0]? = w.heap[0]?) : WdIn w' := by
  obtain ⟨t, fr, h⟩ := h.is
  exact ⟨⟨t, fr, e.trans h⟩⟩
theorem WdIn.below {w w' : World} (h : WdIn w) (hb : Below w.heap.size w w') : WdIn w' := h.of_block (hb.block 0 h.lt)
theorem SgIn.lt {w : World} (h : SgIn w) : 3 < w.heap.size := by
  obtain ⟨t, fr, h⟩ := h.is
  exact (Array.getElem?_eq_some_iff.1 h).1
theorem SgIn.of_block {w w' : World} (h : SgIn w) (e : w'.heap[3]? = w.heap[3]?) : SgIn w' := by
  obtain ⟨t, fr, h⟩ := h.is
  exact ⟨⟨t, fr, e.trans h⟩⟩
theorem SgIn.below {w w' : World} (h : SgIn w) (hb : Below w.heap.size w w') : SgIn w' := h.of_block (hb.block 3 h.lt)
theorem SgIn.cell {w : World} (h : SgIn w) (k : Nat) (hk : k < 15) : w.cell? ⟨3, k, none⟩ = some (.string { data := ((signT[k]?).getD []).toArray }) := by
  obtain ⟨t, fr, h⟩ := h.is
  have : k = 0 ∨ k = 1 ∨ k = 2 ∨ k = 3 ∨ k = 4 ∨ k = 5 ∨ k = 6 ∨ k = 7 ∨ k = 8 ∨ k = 9 ∨ k = 10 ∨ k = 11 ∨ k = 12 ∨ k = 13 ∨ k = 14 := by omega
  have e : signCells[k]? = some (.string { data := ((signT[k]?).getD []).toArray }) := by rcases this with rfl | rfl | rfl | rfl | rfl | rfl | rfl | rfl | rfl | rfl | rfl | rfl | rfl | rfl | rfl <;> rfl
  simp [World.cell?, h, e]
/-- An instruction's number, as one of the first 26. -/
theorem isOp_nat {op : Int} (h : isOp op = true) : ∃ k : Nat, op = (k : Int) ∧ k < 26 := by
  unfold isOp at h
  simp at h
  exact ⟨op.toNat, by omega, by omega⟩
theorem isOp_not {op : Int} (h : isOp op = false) : ¬ (0 ≤ op ∧ op < 26) := by
  unfold isOp at h
  simp at h
  omega
theorem isOp_of {k : Nat} (h : k < 26) : isOp (k : Int) = true := by
  unfold isOp
  simp
  omega
/-- The kind, beside the document's form. -/
theorem kind_form (k : Nat) (h : k < 26) : (kindOf k = 0 ∧ form k = []) ∨ (kindOf k = 1 ∧ form k = [105]) ∨ (kindOf k = 2 ∧ form k = [110]) ∨ (kindOf k = 3 ∧ form k = [110, 110]) := by
  rcases nats26 k h with rfl | rfl | rfl | rfl | rfl | rfl | rfl | rfl | rfl | rfl | rfl | rfl | rfl | rfl | rfl | rfl | rfl | rfl | rfl | rfl | rfl | rfl | rfl | rfl | rfl | rfl <;> simp [kindOf, kindT, form, formT]
theorem In.ok_both (x : In) (h : isOp x.op = true) : x.ok = (argOk (form x.op) 0 x.a && argOk (form x.op) 1 x.b) := by
  unfold In.ok
  simp only [In.st, h, if_true, In.arg]
  cases argOk (form x.op) 0 x.a <;> simp
theorem In.ok_not (x : In) (h : isOp x.op = false) : x.ok = false := by
  unfold In.ok
  simp [In.st, h]
theorem In.bytes_of (x : In) (h : x.ok = true) : x.bytes = big x.op 1 ++ (argB (form x.op) 0 x.a ++ argB (form x.op) 1 x.b) := by
  have ho : isOp x.op = true := by
    cases e : isOp x.op
    · rw [x.ok_not e] at h; cases h
    · rfl
  rw [x.ok_both ho, Bool.and_eq_true] at h
  unfold In.bytes
  simp only [In.st, ho, if_true, In.arg, h.1]
  simp
theorem In.ok_op {x : In} (h : x.ok = true) : isOp x.op = true := by
  cases e : isOp x.op
  · rw [x.ok_not e] at h; cases h
  · rfl
section
set_option maxHeartbeats 4000000
set_option maxRecDepth 100000
theorem below_any (a n : Int) (w : World) : Calls Tryd.prog 53 #[.int .i64 a, .int .i64 n] w fun e w' => e = .returned (.bool (decide (0 ≤ a) && decide (a < n))) ∧ w' = w := by
  by_cases h : 0 ≤ a
  · by_cases h2 : a < n
    · rw [decide_eq_true h, decide_eq_true h2]
      go_enter Tryd.func53, Tryd.ntmps53
      go_wp2
      go_ret
      exact ⟨rfl, rfl⟩
    · rw [decide_eq_true h, decide_eq_false h2]
      go_enter Tryd.func53, Tryd.ntmps53
      go_wp2
      go_ret
      exact ⟨rfl, rfl⟩
  · rw [decide_eq_false h]
    go_enter Tryd.func53, Tryd.ntmps53
    go_wp2
    go_ret
    exact ⟨rfl, rfl⟩
theorem isTwo_any (a : Int) (w : World) : Calls Tryd.prog 52 #[.int .i64 a] w fun e w' => e = .returned (.bool (isTwo a)) ∧ w' = w := by
  have e : isTwo a = (decide (0 ≤ a) && decide (a < 65536)) := by
    unfold isTwo
    congr 1
    apply decide_eq_decide.2
    omega
  have Hc : Hid _ := below_any a 65536 w
  rw [e]
  generalize (decide (0 ≤ a) && decide (a < 65536)) = c at *
  clear e
  go_enter Tryd.func52, Tryd.ntmps52
  go_wp2_with fail
  refine Calls.mono Hc.out ?_
  rintro e w1 ⟨rfl, rfl⟩
  go_wp2
  go_ret
  exact ⟨rfl, rfl⟩
def isNum (a : Int) : Bool := decide (-1000000000 ≤ a) && decide (a ≤ 1000000000)
theorem isNum_any (a : Int) (w : World) : Calls Tryd.prog 66 #[.int .i64 a] w fun e w' => e = .returned (.bool (isNum a)) ∧ w' = w := by
  unfold isNum
  by_cases h : -1000000000 ≤ a
  · by_cases h2 : a ≤ 1000000000
    · rw [decide_eq_true h, decide_eq_true h2]
      go_enter Tryd.func66, Tryd.ntmps66
      go_wp2
      go_ret
      exact ⟨rfl, rfl⟩
    · rw [decide_eq_true h, decide_eq_false h2]
      go_enter Tryd.func66, Tryd.ntmps66
      go_wp2
      go_ret
      exact ⟨rfl, rfl⟩
  · rw [decide_eq_false h]
    go_enter Tryd.func66, Tryd.ntmps66
    go_wp2
    go_ret
    exact ⟨rfl, rfl⟩
end
end Go.Proofs.YtlekoldicnfeeaaDoor
