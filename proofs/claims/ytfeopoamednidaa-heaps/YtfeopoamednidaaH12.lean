/-
  The layer heap: what alike reads of the program's heap; what it keeps.
-/
import Derived.Test.YtfeopoamednidaaH11
namespace Go.Proofs.Ytfeopoamednidaa
open Go.RowKit Go.Deep
/-- The program's heap can be read. -/
structure PGet (w : World) (hv : Value) (P : Doc) : Prop where
  kind : ∀ wx, Below w.heap.size w wx → ∀ a t, P a = some t → Calls Try.prog 17 #[hv, .int .i64 a] wx fun e w' => e = .returned (.int .i64 t.kind) ∧ Below wx.heap.size wx w'
  tag : ∀ wx, Below w.heap.size w wx → ∀ a t, P a = some t → Calls Try.prog 18 #[hv, .int .i64 a] wx fun e w' => e = .returned (.int .i64 t.tag) ∧ Below wx.heap.size wx w'
  len : ∀ wx, Below w.heap.size w wx → ∀ a t, P a = some t → Calls Try.prog 19 #[hv, .int .i64 a] wx fun e w' => e = .returned (.int .i64 (t.fs.length : Nat)) ∧ Below wx.heap.size wx w'
  get : ∀ wx, Below w.heap.size w wx → ∀ a t, P a = some t → ∀ i (hi : i < t.fs.length), Calls Try.prog 14 #[hv, .int .i64 a, .int .i64 (i : Nat)] wx fun e w' => e = .returned (t.fs[i]'hi).val ∧ Below wx.heap.size wx w'
theorem toF_nil : toF [] = fun _ => none := rfl
theorem backF_nil : backF [] = fun _ => none := rfl
/-- Alike begins. -/
theorem PS.made (w : World) : PS (((((w.alloc (.map #[] 0)).alloc (.cells #[.map (some w.heap.size)] 58)).alloc (.map #[] 0)).alloc (.cells #[.map (some (w.heap.size + 2))] 58)).alloc (.cells #[.slice none 0 0] 59)) (w.heap.size + 1) (w.heap.size + 3) (w.heap.size + 4) w.heap.size (w.heap.size + 2) (w.heap.size + 5) w.heap.size (.slice none 0 0) [] ∧ Kp [] w (((((w.alloc (.map #[] 0)).alloc (.cells #[.map (some w.heap.size)] 58)).alloc (.map #[] 0)).alloc (.cells #[.map (some (w.heap.size + 2))] 58)).alloc (.cells #[.slice none 0 0] 59)) := by
  have g1 := alloc_get w (.map #[] 0)
  have m1 := MapAt.made w
  have k1 : Kp [] (w.alloc (.map #[] 0)) ((w.alloc (.map #[] 0)).alloc (.cells #[.map (some w.heap.size)] 58)) := Kp.alloc _ _ _
  have k2 : Kp [] ((w.alloc (.map #[] 0)).alloc (.cells #[.map (some w.heap.size)] 58)) (((w.alloc (.map #[] 0)).alloc (.cells #[.map (some w.heap.size)] 58)).alloc (.map #[] 0)) := Kp.alloc _ _ _
  have k3 : Kp [] (((w.alloc (.map #[] 0)).alloc (.cells #[.map (some w.heap.size)] 58)).alloc (.map #[] 0)) ((((w.alloc (.map #[] 0)).alloc (.cells #[.map (some w.heap.size)] 58)).alloc (.map #[] 0)).alloc (.cells #[.map (some (w.heap.size + 2))] 58)) := Kp.alloc _ _ _
  have k4 : Kp [] ((((w.alloc (.map #[] 0)).alloc (.cells #[.map (some w.heap.size)] 58)).alloc (.map #[] 0)).alloc (.cells #[.map (some (w.heap.size + 2))] 58)) (((((w.alloc (.map #[] 0)).alloc (.cells #[.map (some w.heap.size)] 58)).alloc (.map #[] 0)).alloc (.cells #[.map (some (w.heap.size + 2))] 58)).alloc (.cells #[.slice none 0 0] 59)) := Kp.alloc _ _ _
  have s2 : ((w.alloc (.map #[] 0)).alloc (.cells #[.map (some w.heap.size)] 58)).heap.size = w.heap.size + 2 := by simp
  have s3 : (((w.alloc (.map #[] 0)).alloc (.cells #[.map (some w.heap.size)] 58)).alloc (.map #[] 0)).heap.size = w.heap.size + 3 := by simp
  have s4 : ((((w.alloc (.map #[] 0)).alloc (.cells #[.map (some w.heap.size)] 58)).alloc (.map #[] 0)).alloc (.cells #[.map (some (w.heap.size + 2))] 58)).heap.size = w.heap.size + 4 := by simp
  have s5 : (((((w.alloc (.map #[] 0)).alloc (.cells #[.map (some w.heap.size)] 58)).alloc (.map #[] 0)).alloc (.cells #[.map (some (w.heap.size + 2))] 58)).alloc (.cells #[.slice none 0 0] 59)).heap.size = w.heap.size + 5 := by simp
  have a2 : ((w.alloc (.map #[] 0)).alloc (.cells #[.map (some w.heap.size)] 58)).heap[w.heap.size + 1]? = some (.cells #[.map (some w.heap.size)] 58) := by
    rw [show w.heap.size + 1 = (w.alloc (.map #[] 0)).heap.size from by simp]
    exact alloc_get _ _
  have m2 := MapAt.made ((w.alloc (.map #[] 0)).alloc (.cells #[.map (some w.heap.size)] 58))
  rw [s2] at m2
  have a4 : ((((w.alloc (.map #[] 0)).alloc (.cells #[.map (some w.heap.size)] 58)).alloc (.map #[] 0)).alloc (.cells #[.map (some (w.heap.size + 2))] 58)).heap[w.heap.size + 3]? = some (.cells #[.map (some (w.heap.size + 2))] 58) := by
    rw [← s3]
    exact alloc_get _ _
  have a5 : (((((w.alloc (.map #[] 0)).alloc (.cells #[.map (some w.heap.size)] 58)).alloc (.map #[] 0)).alloc (.cells #[.map (some (w.heap.size + 2))] 58)).alloc (.cells #[.slice none 0 0] 59)).heap[w.heap.size + 4]? = some (.cells #[.slice none 0 0] 59) := by
    rw [← s4]
    exact alloc_get _ _
  have k24 := (k2.trans k3).trans k4
  refine ⟨⟨(k24.block _ (by omega) (by simp)).trans a2, (k4.block _ (by omega) (by simp)).trans a4, a5, ?_, ?_, World.ownsRow_nil _ _ _ _, by omega, by omega, by omega, by omega⟩, (Kp.alloc _ _ _).trans (k1.trans k24)⟩
  · rw [toF_nil]
    exact m1.kp (k1.trans k24) (by simp)
  · rw [backF_nil]
    exact m2.kp (k3.trans k4) (by simp)
theorem OwnP.ne {w : World} {base : Nat} {v : Value} {l : Prs} (h : OwnP w base v l) {c : Nat} {a : Array Value} (hc : w.heap[c]? = some (.cells a 52)) : v.ownBlock ≠ some c := by
  intro e
  rcases h.2 with ⟨rfl, h0⟩ | ⟨g, cap, cur, rfl, h1, h2, _⟩
  · cases e
  · simp [Value.ownBlock] at e
    subst e
    rw [hc] at h2
    simp at h2
/-- What alike keeps, with the thing that is looked at. -/
theorem PS.thing {w w' : World} {tb kb db tm km base B : Nat} {v : Value} {T : Prs} (h : PS w tb kb db tm km base B v T) (hk : Kp ([tm, km] ++ v.ownBlock.toList ++ [db]) w w') {c : Nat} {a : Array Value} (hc : w.heap[c]? = some (.cells a 52)) (hb : base ≤ c) : w'.heap[c]? = some (.cells a 52) := by
  have hl := h.lt
  refine (hk.block c (Array.getElem?_eq_some_iff.1 hc).1 ?_).trans hc
  have := h.own.ne hc
  simp
  exact ⟨by omega, by omega, this, by omega⟩
end Go.Proofs.Ytfeopoamednidaa
