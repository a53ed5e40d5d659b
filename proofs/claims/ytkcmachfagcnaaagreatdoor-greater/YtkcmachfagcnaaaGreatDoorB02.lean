/- Part of Greater. -/
import Derived.Test.YtkcmachfagcnaaaGreatDoorB01
namespace Go.Proofs.YtkcmachfagcnaaaGreatDoor
open Go.RowKit Go.Deep
section
variable {P : Program} {ops : Array Oper} {Q : Exit → Act → World → Prop} {md : Region.Mode} {C : World → Prop} {m : Nat}
theorem rA {i : Nat} {oi : Oper} {n : Nat} {listed : Array Bool} {a : Act} {w : World} (hi : ops[i]? = some oi) (h : ∃ v, zG P ops C oi v a ∧ anyIn P md ops Q C n (listed.setIfInBounds i true) (a.put oi.dst v) w) (hs : Region.noSelect ops = true := by kernel_rfl) (hf : Region.free md ops listed i = true := by kernel_rfl) (hr : (Region.ready md ops listed).contains i = true := by kernel_rfl) (hQ : ∀ v c a w, Q (.panic c) (a.put oi.dst v) w → Q (.panic c) a w := by exact fun _ _ _ _ h => h) : anyIn P md ops Q C (n + 1) listed a w := zh4 hi hs hf hr hQ h
theorem qA (i : Nat) {oi : Oper} {n : Nat} {listed : Array Bool} {a : Act} {w : World} (hi : ops[i]? = some oi) (h : ∃ v, (∀ w, C w → (execOp a.eval oi).run P w = .ok (.value v) w) ∧ anyIn P md ops Q C n (listed.setIfInBounds i true) (a.put oi.dst v) w) (hwn : Region.wanted oi (yielded ops a.tmps) = true := by kernel_rfl) (hs : Region.noSelect ops = true := by kernel_rfl) (hf : Region.free md ops listed i = true := by kernel_rfl) (hr : (Region.ready md ops listed).contains i = true := by kernel_rfl) (hQ : ∀ v c a w, Q (.panic c) (a.put oi.dst v) w → Q (.panic c) a w := by exact fun _ _ _ _ h => h) : anyIn P md ops Q C (n + 1) listed a w := by
  obtain ⟨v, h1, h2⟩ := h
  exact zh4 hi hs hf hr hQ ⟨v, .inl ⟨hwn, h1⟩, h2⟩
theorem qL (i : Nat) {oi : Oper} {n : Nat} {listed : Array Bool} {a : Act} {w : World} (hi : ops[i]? = some oi) (h : ∃ v, (∀ w, C w → (execOp a.eval oi).run P w = .ok (.value v) w) ∧ anyL P md ops Q C m n (listed.setIfInBounds i true) (a.put oi.dst v) w) (hwn : Region.wanted oi (yielded ops a.tmps) = true := by kernel_rfl) (hs : Region.noSelect ops = true := by kernel_rfl) (hf : Region.free md ops listed i = true := by kernel_rfl) (hr : (Region.ready md ops listed).contains i = true := by kernel_rfl) (hwt : (waits md ops m i && !(listed.getD m true) && (m != i)) = true := by kernel_rfl) (hQ : ∀ v c a w, Q (.panic c) (a.put oi.dst v) w → Q (.panic c) a w := by exact fun _ _ _ _ h => h) : anyL P md ops Q C m (n + 1) listed a w := by
  obtain ⟨v, h1, h2⟩ := h
  exact zkc hi hs hf hr hwt hQ ⟨v, .inl ⟨hwn, h1⟩, h2⟩
theorem qT (i : Nat) {oi : Oper} {n : Nat} {listed : Array Bool} {a : Act} {w : World} (hi : ops[i]? = some oi) (h : ∃ v, (∀ w, C w → (execOp a.eval oi).run P w = .ok (.value v) w) ∧ anyL P md ops Q C m n (listed.setIfInBounds i true) (a.put oi.dst v) w) (hwn : Region.wanted oi (yielded ops a.tmps) = true := by kernel_rfl) (hs : Region.noSelect ops = true := by kernel_rfl) (hf : Region.free md ops listed i = true := by kernel_rfl) (hr : (Region.ready md ops listed).contains i = true := by kernel_rfl) (hwt : (zhm md ops 40 m i && zg7 md ops listed && !(listed.getD m true) && (m != i)) = true := by kernel_rfl) (hQ : ∀ v c a w, Q (.panic c) (a.put oi.dst v) w → Q (.panic c) a w := by exact fun _ _ _ _ h => h) : anyL P md ops Q C m (n + 1) listed a w := by
  obtain ⟨v, h1, h2⟩ := h
  exact zax 40 hi hs hf hr hwt hQ ⟨v, .inl ⟨hwn, h1⟩, h2⟩
theorem wY {Q : Act → Prop} {a : Act} {o : Oper} {rest : List Oper} (h : ∀ K : Act → Prop, (∀ a, wpQuiet P ops C Q rest a → K a) → o.quiet P a C K) (hw : Region.wanted o (yielded ops a.tmps) = true := by rw [Hops.o]; kernel_rfl) : wpQuiet P ops C Q (o :: rest) a := by
  refine wpQuiet_step (fun K hK => ?_)
  rw [if_pos hw]
  exact h K hK
theorem wN {Q : Act → Prop} {a : Act} {o : Oper} {rest : List Oper} (h : ∀ K : Act → Prop, (∀ a, wpQuiet P ops C Q rest a → K a) → K (a.put o.dst undef)) (hw : Region.wanted o (yielded ops a.tmps) = false := by rw [Hops.o]; kernel_rfl) : wpQuiet P ops C Q (o :: rest) a := by
  refine wpQuiet_step (fun K hK => ?_)
  rw [if_neg (by rw [hw]; decide)]
  exact h K hK
theorem wQ {Q : Act → Prop} {a : Act} {o : Oper} {rest : List Oper} (h : ∃ v, (∀ w, C w → o.quietAt P a C w v) ∧ wpQuiet P ops C Q rest (a.put o.dst v)) (hw : Region.wanted o (yielded ops a.tmps) = true := by rw [Hops.o]; kernel_rfl) : wpQuiet P ops C Q (o :: rest) a := by
  obtain ⟨v, h1, h2⟩ := h
  exact wY (fun _ hK => ⟨v, h1, hK _ h2⟩) hw
theorem wU {Q : Act → Prop} {a : Act} {o : Oper} {rest : List Oper} (h : wpQuiet P ops C Q rest (a.put o.dst undef)) (hw : Region.wanted o (yielded ops a.tmps) = false := by rw [Hops.o]; kernel_rfl) : wpQuiet P ops C Q (o :: rest) a := wN (fun _ hK => hK _ h) hw
theorem rQ {id : Nat} {a : Act} {w w1 : World} {l : List Oper} (hC : Kp [] w1 w.drew) (h : ∀ ops, Hid (ops = l.toArray) → wpQuiet P ops (fun wx => Kp [] w1 wx) (fun a' => ∀ w', Kp [] w1 w' → Q .normal a' w') l a) (hm : P.follows .mixedOrders = true := by kernel_rfl) (hB : Region.lexB .any l.toArray = true := by kernel_rfl) : (Code.region id l.toArray true).wp P Q a w := wp_region_quiet (C := fun wx => Kp [] w1 wx) hm hB hC (by simpa using (h _ rfl))
theorem oA (i : Nat) {o : Oper} {n : Nat} {listed : Array Bool} {a : Act} {w : World} (hC : C w) (hi : ops[i]? = some o) (h : ∀ K : Act → World → Prop, (∀ a w, anyIn P md ops Q C n (listed.setIfInBounds i true) a w → K a w) → if Region.wanted o (yielded ops a.tmps) then o.wp P a w K Q else K (a.put o.dst undef) w) (hr : Region.ready md ops listed = [i] := by kernel_rfl) : anyIn P md ops Q C (n + 1) listed a w := zby hC hi hr h
theorem oL (i : Nat) {o : Oper} {n : Nat} {listed : Array Bool} {a : Act} {w : World} (hC : C w) (hi : ops[i]? = some o) (h : ∀ K : Act → World → Prop, (∀ a w, anyL P md ops Q C m n (listed.setIfInBounds i true) a w → K a w) → if Region.wanted o (yielded ops a.tmps) then o.wp P a w K Q else K (a.put o.dst undef) w) (hr : Region.ready md ops listed = [i] := by kernel_rfl) : anyL P md ops Q C m (n + 1) listed a w := zmz hC hi hr h
end
end Go.Proofs.YtkcmachfagcnaaaGreatDoor
