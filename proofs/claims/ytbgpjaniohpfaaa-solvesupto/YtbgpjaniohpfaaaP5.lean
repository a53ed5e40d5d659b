/-
  The second reader of types: does a number stand in a list; the variables of a type.
-/
import Derived.Test.YtbgpjaniohpfaaaP3
import Derived.Test.YtbgpjaniohpfaaaTp2
import Derived.Maps.AppendAt
import Derived.Maps.OwnSet
namespace Go.Proofs.Ytbgpjaniohpfaaa
open Go.RowKit
theorem beq_t {a b : Int} (h : a = b) : (a == b) = true := by rw [beq_iff_eq]; exact h
theorem beq_f {a b : Int} (h : ¬ a = b) : (a == b) = false := by rw [beq_eq_false_iff_ne]; exact h
open Go.Proofs.Ytbgpjaniohpfaaa
/-- From a world and an owned row to a later one: nothing changes but that row, and memory that is new. -/
structure Onto (w w' : World) (v v' : Value) : Prop where
  grown : w.grownBy w' v.ownBlock
  row : ∀ g, v'.ownBlock = some g → v.ownBlock = some g ∨ w.heap.size ≤ g
theorem Onto.refl (w : World) (v : Value) : Onto w w v v := ⟨⟨rfl, rfl, rfl, Nat.le_refl _, fun _ _ _ => rfl⟩, fun _ h => Or.inl h⟩
theorem Onto.trans {w w1 w2 : World} {v v1 v2 : Value} (h : Onto w w1 v v1) (k : Onto w1 w2 v1 v2) : Onto w w2 v v2 := by
  refine ⟨⟨k.grown.os.trans h.grown.os, k.grown.tape.trans h.grown.tape, k.grown.output.trans h.grown.output, Nat.le_trans h.grown.size k.grown.size, fun i hi hne => ?_⟩, fun g hg => ?_⟩
  · rw [k.grown.block i (Nat.lt_of_lt_of_le hi h.grown.size) (fun e => ?_), h.grown.block i hi hne]
    rcases h.row i e.symm with q | q
    · exact hne q.symm
    · omega
  · rcases k.row g hg with q | q
    · exact h.row g q
    · exact Or.inr (Nat.le_trans h.grown.size q)
theorem Onto.of_below {w w' : World} (h : Below w.heap.size w w') (v : Value) : Onto w w' v v := ⟨⟨h.os, h.tape, h.output, h.size, fun k hk _ => h.block k hk⟩, fun _ e => Or.inl e⟩
theorem Onto.append {w w' : World} {v v' : Value} (h : w.grownBy w' v.ownBlock) (hr : v'.ownBlock = v.ownBlock ∨ v'.ownBlock = some w.heap.size) : Onto w w' v v' := by
  refine ⟨h, fun g hg => ?_⟩
  rcases hr with q | q
  · exact Or.inl (q.symm.trans hg)
  · rw [q] at hg
    exact Or.inr (Nat.le_of_eq (Option.some.inj hg))
/-- What lies below the row's base stays. -/
theorem Onto.below {w w' : World} {v v' : Value} {B : Nat} {a : World} (h : Onto w w' v v') (hb : Below B a w) (hB : B ≤ w.heap.size) (hv : ∀ k, v.ownBlock = some k → B ≤ k) : Below B a w' := hb.grown h.grown hB hv
theorem Onto.cell {w w' : World} {v v' : Value} (h : Onto w w' v v') {a : Addr} {u : Value} (hc : w.cell? a = some u) (hne : v.ownBlock ≠ some a.block) : w'.cell? a = some u := h.grown.cell hc (fun e => hne e.symm)
def intCells (l : List Int) : List Value := l.map fun x => .int .i64 x
theorem intCells_snoc (l : List Int) (x : Int) : intCells (l ++ [x]) = intCells l ++ [.int .i64 x] := by simp [intCells]
section
set_option maxHeartbeats 1000000
set_option maxRecDepth 100000
theorem has_any (l : List Int) (v : Value) (x : Int) (base : Nat) (w : World) (hown : w.ownsRow base 3 1 v l.length (intCells l)) (hl : l.length ≤ 1000000000) :
    Calls Try.prog 35 #[v, .int .i64 x] w fun e w' => e = .returned (.bool (l.contains x)) ∧ w' = w := by
  have hh := hown
  obtain ⟨_, hv⟩ := hown
  obtain ⟨p, cap, rfl, hcell⟩ : ∃ p cap, v = .slice p l.length cap ∧ ∀ i (hi : i < l.length), ∃ g, p = some ⟨g, 0, none⟩ ∧ w.cell? ⟨g, i, none⟩ = some (.int .i64 (l[i]'hi)) := by
    rcases hv with ⟨rfl, hn⟩ | ⟨g, cap, cur, rfl, _⟩
    · exact ⟨none, 0, by rw [hn], fun i hi => absurd hi (by omega)⟩
    · refine ⟨_, _, rfl, fun i hi => ⟨g, rfl, ?_⟩⟩
      have := hh.cellAt i (by omega)
      rw [this]
      simp [intCells, hi]
  have Hc : Hid _ := hcell
  clear hcell hh hv
  generalize hR : l.contains x = R
  have HR : Hid (R = (l.drop 0).contains x) := hR.symm
  clear hR
  go_enter Try.func35, Try.ntmps35
  go_wp2_with fail
  go_loop [5] (fun i => ∃ k : Nat, k ≤ l.length ∧ i = .int .i64 k ∧ Hid (R = (l.drop k).contains x)) (fun i => l.length - (intOf i).toNat)
  case atStart => exact ⟨0, by omega, rfl, HR⟩
  case round =>
    clear HR
    obtain ⟨k, hk, rfl, Hk⟩ := hrel
    by_cases hlt : k < l.length
    · have hlt' : (k : Int) < l.length := by omega
      obtain ⟨g, rfl, hc⟩ := Hc.out k hlt
      have hks := Hk.out
      rw [List.drop_eq_getElem_cons hlt] at hks
      generalize l[k] = y at *
      by_cases hx : y = x
      · have hb := beq_t hx
        have Hf : Hid (R = true) := by unfold Hid; rw [hks, hx]; simp
        clear hks hx Hk
        go_wp2
        go_ret
        exact ⟨ret_bool Hf.out.symm, rfl⟩
      · have hb := beq_f hx
        have Hf : Hid (R = (l.drop (k + 1)).contains x) := by unfold Hid; rw [hks]; simp [Ne.symm hx]
        clear hks hx Hk
        go_wp2
        go_round
        case rel => exact ⟨k + 1, by omega, by go_num, Hf⟩
        case measure => simp [intOf]; omega
    · have hlt' : ¬ (k : Int) < l.length := by omega
      have Hf : Hid (R = false) := by unfold Hid; rw [Hk.out, List.drop_of_length_le (by omega)]; rfl
      clear Hk
      go_wp2
      go_ret
      exact ⟨ret_bool Hf.out.symm, rfl⟩
end
end Go.Proofs.Ytbgpjaniohpfaaa
