/-
  The document's reader of codes in plain words (Decode), and what it has in memory on its way.
-/
import Derived.Test.YtlekoldicnfeeaaDoorC8
import Derived.Deep.AppendLies
namespace Go.Proofs.YtlekoldicnfeeaaDoor
open Go.RowKit Go.Deep
def headAt (i : Nat) : UInt8 := if i = 0 then 77 else if i = 1 then 76 else 49
def headStep (S : ByteArray) (i : Nat) (r : Rs) : Rs := if S.size ≤ i then r.fail 16 i else if byteAt S i = headAt i then r else r.fail 15 i
/-- The first bytes. -/
def headR (S : ByteArray) : Nat → Nat → Rs → Rs
  | 0, _, r => r
  | n + 1, i, r => if r.kind = 0 then headR S n (i + 1) (headStep S i r) else r
def textTake (S : ByteArray) (ts : List ByteArray) (pl : Int) (k : Int) (r : Rs) : List ByteArray × Rs :=
  if r.kind = 0 then (if 200 < k then (ts, r.fail 17 pl) else if (S.size : Int) - r.pos < k then (ts, r.fail 16 S.size) else (ts ++ [S.extract r.pos (r.pos + k.toNat)], ⟨r.pos + k.toNat, r.kind, r.fat⟩)) else (ts, r)
/-- A text. -/
def textR (S : ByteArray) (s : List ByteArray × Rs) : List ByteArray × Rs := textTake S s.1 s.2.pos (s.2.num S 1).1 (s.2.num S 1).2
def textsR (S : ByteArray) : Nat → List ByteArray × Rs → List ByteArray × Rs
  | 0, s => s
  | n + 1, s => if s.2.kind = 0 then textsR S n (textR S s) else s
/-- Instructions. -/
def insN (S : ByteArray) : Nat → List In × Rs → List In × Rs
  | 0, s => s
  | n + 1, s => if s.2.kind = 0 then insN S n (s.1 ++ [(insR S s.2).1], (insR S s.2).2) else s
def funTail (S : ByteArray) (free slots : Int) (n : Int × Rs) : Fn × Rs := (⟨free, slots, (insN S n.1.toNat ([], n.2)).1⟩, (insN S n.1.toNat ([], n.2)).2)
/-- A function. -/
def funR (S : ByteArray) (r : Rs) : Fn × Rs := funTail S (r.num S 2).1 ((r.num S 2).2.num S 2).1 (((r.num S 2).2.num S 2).2.num S 2)
def funsR (S : ByteArray) : Nat → List Fn × Rs → List Fn × Rs
  | 0, s => s
  | n + 1, s => if s.2.kind = 0 then funsR S n (s.1 ++ [(funR S s.2).1], (funR S s.2).2) else s
def decEnd (S : ByteArray) (r : Rs) : Rs := if r.kind = 0 ∧ r.pos < S.size then r.fail 16 r.pos else r
def decAns (c : Cd) (r : Rs) : Cd × Int × Int := if r.kind = 0 then (c, 0, 0) else (⟨[], []⟩, r.kind, r.fat)
def decFuns (S : ByteArray) (ts : List ByteArray) (m : Int × Rs) : Cd × Int × Int := decAns ⟨ts, (funsR S m.1.toNat ([], m.2)).1⟩ (decEnd S (funsR S m.1.toNat ([], m.2)).2)
def decTexts (S : ByteArray) (n : Int × Rs) : Cd × Int × Int := decFuns S (textsR S n.1.toNat ([], n.2)).1 ((textsR S n.1.toNat ([], n.2)).2.num S 2)
def decHead (S : ByteArray) (r : Rs) : Cd × Int × Int := decTexts S (Rs.num S 2 ⟨3, r.kind, r.fat⟩)
/-- A code, or the fault. -/
def decR (S : ByteArray) : Cd × Int × Int := if 4000000 < S.size then (⟨[], []⟩, 1, 0) else decHead S (headR S 3 0 ⟨0, 0, 0⟩)
/-- A function as it lies. -/
structure FnAt where
  f : Fn
  q : Option Addr
  cap : Nat
def fnRow (fs : List FnAt) : List Value := fs.flatMap fun x => [.int .i64 x.f.free, .int .i64 x.f.slots, .slice x.q x.f.ins.length x.cap]
def inRow (l : List In) : List Value := l.flatMap fun x => [.int .i64 x.op, .int .i64 x.a, .int .i64 x.b]
theorem fnRow_snoc (fs : List FnAt) (x : FnAt) : fnRow (fs ++ [x]) = fnRow fs ++ [.int .i64 x.f.free, .int .i64 x.f.slots, .slice x.q x.f.ins.length x.cap] := by simp [fnRow]
theorem inRow_snoc (l : List In) (x : In) : inRow (l ++ [x]) = inRow l ++ [.int .i64 x.op, .int .i64 x.a, .int .i64 x.b] := by simp [inRow]
theorem inRow_get (l : List In) (i : Nat) (hi : i < l.length) : (inRow l)[i * 3]? = some (.int .i64 (l[i]'hi).op) ∧ (inRow l)[i * 3 + 1]? = some (.int .i64 (l[i]'hi).a) ∧ (inRow l)[i * 3 + 2]? = some (.int .i64 (l[i]'hi).b) := by
  induction l generalizing i with
  | nil => cases hi
  | cons x r ih =>
    cases i with
    | zero => simp [inRow]
    | succ j =>
      have := ih j (by simpa using hi)
      have e : inRow (x :: r) = [.int .i64 x.op, .int .i64 x.a, .int .i64 x.b] ++ inRow r := by simp [inRow]
      rw [e]
      refine ⟨?_, ?_, ?_⟩
      · rw [List.getElem?_append_right (by simp; omega)]; simpa [show (j + 1) * 3 - 3 = j * 3 by omega] using this.1
      · rw [List.getElem?_append_right (by simp; omega)]; simpa [show (j + 1) * 3 + 1 - 3 = j * 3 + 1 by omega] using this.2.1
      · rw [List.getElem?_append_right (by simp; omega)]; simpa [show (j + 1) * 3 + 2 - 3 = j * 3 + 2 by omega] using this.2.2
theorem fnRow_get (l : List FnAt) (i : Nat) (hi : i < l.length) : (fnRow l)[i * 3]? = some (.int .i64 (l[i]'hi).f.free) ∧ (fnRow l)[i * 3 + 1]? = some (.int .i64 (l[i]'hi).f.slots) ∧ (fnRow l)[i * 3 + 2]? = some (.slice (l[i]'hi).q (l[i]'hi).f.ins.length (l[i]'hi).cap) := by
  induction l generalizing i with
  | nil => cases hi
  | cons x r ih =>
    cases i with
    | zero => simp [fnRow]
    | succ j =>
      have := ih j (by simpa using hi)
      have e : fnRow (x :: r) = [.int .i64 x.f.free, .int .i64 x.f.slots, .slice x.q x.f.ins.length x.cap] ++ fnRow r := by simp [fnRow]
      rw [e]
      refine ⟨?_, ?_, ?_⟩
      · rw [List.getElem?_append_right (by simp; omega)]; simpa [show (j + 1) * 3 - 3 = j * 3 by omega] using this.1
      · rw [List.getElem?_append_right (by simp; omega)]; simpa [show (j + 1) * 3 + 1 - 3 = j * 3 + 1 by omega] using this.2.1
      · rw [List.getElem?_append_right (by simp; omega)]; simpa [show (j + 1) * 3 + 2 - 3 = j * 3 + 2 by omega] using this.2.2
theorem ownsRow.kp {X : List Nat} {w w' : World} {base : Nat} {e : TypeId} {size : Nat} {v : Value} {n : Nat} {xs : List Value} (h : w.ownsRow base e size v n xs) (hk : Kp X w w') (hX : ∀ g, v.ownBlock = some g → g ∉ X) : w'.ownsRow base e size v n xs := by
  obtain ⟨h1, h2⟩ := h
  refine ⟨h1, ?_⟩
  rcases h2 with h2 | ⟨g, cap, cur, hv, hg, hh, r⟩
  · exact Or.inl h2
  · refine Or.inr ⟨g, cap, cur, hv, hg, ?_, r⟩
    rw [hk.block g (Array.getElem?_eq_some_iff.1 hh).1 (hX g (by rw [hv]; rfl))]
    exact hh
theorem InsIn.kp {X : List Nat} {w w' : World} {p : Option Addr} {l : List In} (h : InsIn w p l) (hk : Kp X w w') (hX : ∀ b, p = some b → b.block ∉ X) : InsIn w' p l :=
  ⟨h.len, fun i hi => by
    obtain ⟨b, o, h1, h2, h3, h4, h5⟩ := h.get i hi
    have hb := hX _ h1
    exact ⟨b, o, h1, Nat.lt_of_lt_of_le h2 hk.size, hk.cell h3 hb, hk.cell h4 hb, hk.cell h5 hb⟩⟩
theorem addr_add (g j : Nat) : (⟨g, 0, none⟩ : Addr).add j = ⟨g, j, none⟩ := by unfold Addr.add; split <;> simp_all
/-- A row of instructions of one's own. -/
theorem insIn_row {w : World} {base : Nat} {v : Value} {l : List In} (h : w.ownsRow base 47 3 v l.length (inRow l)) (hl : l.length ≤ 65536) : ∃ q cap, v = .slice q l.length cap ∧ InsIn w q l ∧ ∀ b, q = some b → v.ownBlock = some b.block ∧ base ≤ b.block ∧ b.block < w.heap.size := by
  rcases h.2 with ⟨rfl, h0⟩ | ⟨g, cap, cur, rfl, h1, h2, h3, h4, h5, h6⟩
  · have : l = [] := List.eq_nil_of_length_eq_zero h0
    subst this
    exact ⟨none, 0, rfl, ⟨by simp, fun i hi => by cases hi⟩, fun b hb => by cases hb⟩
  · have hg := (Array.getElem?_eq_some_iff.1 h2).1
    refine ⟨some ⟨g, 0, none⟩, cap, rfl, ⟨by omega, fun i hi => ?_⟩, fun b hb => by cases hb; exact ⟨rfl, h1, hg⟩⟩
    obtain ⟨a0, a1, a2⟩ := inRow_get l i hi
    have c0 := h.cells (g := g) rfl _ _ a0
    have c1 := h.cells (g := g) rfl _ _ a1
    have c2 := h.cells (g := g) rfl _ _ a2
    exact ⟨g, 0, rfl, hg, by rw [addr_add] at c0; simpa using c0, by rw [addr_add] at c1; simpa using c1, by rw [addr_add] at c2; simpa using c2⟩
theorem textsIn_row {w : World} {base : Nat} {v : Value} {l : List ByteArray} (h : w.ownsRow base 9 1 v l.length (l.map Value.string)) (hl : l.length ≤ 65536) : ∃ q cap, v = .slice q l.length cap ∧ TextsIn w q l := by
  rcases h.2 with ⟨rfl, h0⟩ | ⟨g, cap, cur, rfl, h1, h2, h3, h4, h5, h6⟩
  · have : l = [] := List.eq_nil_of_length_eq_zero h0
    subst this
    exact ⟨none, 0, rfl, ⟨by simp, fun i hi => by cases hi⟩⟩
  · have hg := (Array.getElem?_eq_some_iff.1 h2).1
    refine ⟨some ⟨g, 0, none⟩, cap, rfl, ⟨by omega, fun i hi => ?_⟩⟩
    have c0 := h.cells (g := g) rfl i (.string (l[i]'hi)) (by simp [hi])
    exact ⟨g, 0, rfl, hg, by rw [addr_add] at c0; simpa using c0⟩
theorem funsIn_row {w : World} {base : Nat} {v : Value} {l : List FnAt} (h : w.ownsRow base 50 3 v l.length (fnRow l)) (hl : l.length ≤ 65536) (hI : ∀ x ∈ l, InsIn w x.q x.f.ins) : ∃ q cap, v = .slice q l.length cap ∧ FunsIn w q (l.map FnAt.f) := by
  rcases h.2 with ⟨rfl, h0⟩ | ⟨g, cap, cur, rfl, h1, h2, h3, h4, h5, h6⟩
  · have : l = [] := List.eq_nil_of_length_eq_zero h0
    subst this
    exact ⟨none, 0, rfl, ⟨by simp, fun i hi => by cases hi⟩⟩
  · have hg := (Array.getElem?_eq_some_iff.1 h2).1
    refine ⟨some ⟨g, 0, none⟩, cap, rfl, ⟨by simp; omega, fun i hi => ?_⟩⟩
    have hi2 : i < l.length := by simpa using hi
    obtain ⟨a0, a1, a2⟩ := fnRow_get l i hi2
    have c0 := h.cells (g := g) rfl _ _ a0
    have c1 := h.cells (g := g) rfl _ _ a1
    have c2 := h.cells (g := g) rfl _ _ a2
    refine ⟨g, 0, (l[i]'hi2).q, (l[i]'hi2).cap, rfl, hg, ⟨by rw [addr_add] at c0; simpa using c0, by rw [addr_add] at c1; simpa using c1, by rw [addr_add] at c2; simpa using c2⟩, ?_⟩
    have := hI _ (List.getElem_mem hi2)
    simpa using this
/-- Another block than what the reader of codes has. -/
structure Apart (B : Nat) (vt vf : Value) (fs : List FnAt) (g : Nat) : Prop where
  le : B + 4 ≤ g
  t : vt.ownBlock ≠ some g
  f : vf.ownBlock ≠ some g
  q : ∀ x ∈ fs, ∀ b, x.q = some b → b.block ≠ g
/-- What it has: the cells of its answer, of its code; its reader; the rows. -/
structure Dw (w0 w : World) (S : ByteArray) (ts : List ByteArray) (fs : List FnAt) (vt vf : Value) (r : Rs) : Prop where
  two : w.heap[w0.heap.size]? = some (.cells #[.slice none 0 0, .slice none 0 0] 25)
  three : w.heap[w0.heap.size + 1]? = some (.cells #[.int .i64 0, .int .i64 0] 34)
  code : w.heap[w0.heap.size + 2]? = some (.cells #[vt, vf] 25)
  rd : RAt w (w0.heap.size + 3) S r
  rows : w.ownsRow (w0.heap.size + 4) 9 1 vt ts.length (ts.map Value.string)
  rowf : w.ownsRow (w0.heap.size + 4) 50 3 vf fs.length (fnRow fs)
  apart : ∀ g, vt.ownBlock = some g → vf.ownBlock ≠ some g
  ins : ∀ x ∈ fs, InsIn w x.q x.f.ins ∧ ∀ b, x.q = some b → w0.heap.size + 4 ≤ b.block ∧ b.block < w.heap.size ∧ vt.ownBlock ≠ some b.block ∧ vf.ownBlock ≠ some b.block
  keep : Below w0.heap.size w0 w
  pos : r.pos ≤ 4000000
theorem Dw.size {w0 w : World} {S : ByteArray} {ts : List ByteArray} {fs : List FnAt} {vt vf : Value} {r : Rs} (h : Dw w0 w S ts fs vt vf r) : w0.heap.size + 4 ≤ w.heap.size := RBox.lt h.rd
/-- A new block is another one. -/
theorem Dw.new {w0 w : World} {S : ByteArray} {ts : List ByteArray} {fs : List FnAt} {vt vf : Value} {r : Rs} (h : Dw w0 w S ts fs vt vf r) (g : Nat) (hg : w.heap.size ≤ g) : Apart w0.heap.size vt vf fs g :=
  ⟨Nat.le_trans h.size hg, fun e => by have := (h.rows.lt _ e).2; omega, fun e => by have := (h.rowf.lt _ e).2; omega, fun x hx b hb e => by have := ((h.ins x hx).2 b hb).2.1; omega⟩
/-- What is written besides changes nothing of it. -/
theorem Dw.kp {X : List Nat} {w0 w w' : World} {S : ByteArray} {ts : List ByteArray} {fs : List FnAt} {vt vf : Value} {r : Rs} (h : Dw w0 w S ts fs vt vf r) (k : Kp X w w') (hX : ∀ x ∈ X, Apart w0.heap.size vt vf fs x) : Dw w0 w' S ts fs vt vf r := by
  have hs := h.size
  have low : ∀ b, b < w0.heap.size + 4 → b ∉ X := fun b hb hx => by have := (hX b hx).le; omega
  refine ⟨(k.block _ (by omega) (low _ (by omega))).trans h.two, (k.block _ (by omega) (low _ (by omega))).trans h.three, (k.block _ (by omega) (low _ (by omega))).trans h.code, RBox.kp h.rd k (low _ (by omega)), ownsRow.kp h.rows k (fun g hg hx => (hX g hx).t hg), ownsRow.kp h.rowf k (fun g hg hx => (hX g hx).f hg), h.apart, fun x hx => ⟨(h.ins x hx).1.kp k (fun b hb hm => (hX _ hm).q x hx b hb rfl), fun b hb => ?_⟩, ?_, h.pos⟩
  · obtain ⟨h1, h2, h3, h4⟩ := (h.ins x hx).2 b hb
    exact ⟨h1, Nat.lt_of_lt_of_le h2 k.size, h3, h4⟩
  · exact h.keep.trans (k.below h.keep.size (fun x hx => by have := (hX x hx).le; omega))
/-- The reader has gone on. -/
theorem Dw.read {w0 w w' : World} {S : ByteArray} {ts : List ByteArray} {fs : List FnAt} {vt vf : Value} {r r' : Rs} (h : Dw w0 w S ts fs vt vf r) (hr : RAt w' (w0.heap.size + 3) S r') (k : Kp [w0.heap.size + 3] w w') (hp : r'.pos ≤ 4000000) : Dw w0 w' S ts fs vt vf r' := by
  have hs := h.size
  refine ⟨(k.block _ (by omega) (by simp)).trans h.two, (k.block _ (by omega) (by simp)).trans h.three, (k.block _ (by omega) (by simp)).trans h.code, hr, ownsRow.kp h.rows k (fun g hg hx => ?_), ownsRow.kp h.rowf k (fun g hg hx => ?_), h.apart, fun x hx => ⟨(h.ins x hx).1.kp k (fun b hb hm => ?_), fun b hb => ?_⟩, ?_, hp⟩
  · have := (h.rows.lt g hg).1
    simp at hx
    omega
  · have := (h.rowf.lt g hg).1
    simp at hx
    omega
  · have := ((h.ins x hx).2 b hb).1
    simp at hm
    omega
  · obtain ⟨h1, h2, h3, h4⟩ := (h.ins x hx).2 b hb
    exact ⟨h1, Nat.lt_of_lt_of_le h2 k.size, h3, h4⟩
  · exact h.keep.trans (k.below h.keep.size (fun x hx => by simp at hx; omega))
theorem Dw.cells {w0 w : World} {S : ByteArray} {ts : List ByteArray} {fs : List FnAt} {vt vf : Value} {r : Rs} (h : Dw w0 w S ts fs vt vf r) : (w.cell? ⟨w0.heap.size + 3, 0, none⟩ = some (.string S) ∧ w.cell? ⟨w0.heap.size + 3, 1, none⟩ = some (.int .i64 r.pos) ∧ w.cell? ⟨w0.heap.size + 3, 2, none⟩ = some (.int .i64 r.kind) ∧ w.cell? ⟨w0.heap.size + 3, 3, none⟩ = some (.int .i64 r.fat) ∧ (∀ j, w.frozen? ⟨w0.heap.size + 3, j, none⟩ = false)) ∧ (w.cell? ⟨w0.heap.size + 2, 0, none⟩ = some vt ∧ w.cell? ⟨w0.heap.size + 2, 1, none⟩ = some vf ∧ (∀ j, w.frozen? ⟨w0.heap.size + 2, j, none⟩ = false)) ∧ w0.heap.size + 4 ≤ w.heap.size := by
  refine ⟨RBox.cells h.rd, ?_, h.size⟩
  have := h.code
  refine ⟨?_, ?_, fun j => ?_⟩ <;> simp [World.cell?, World.frozen?, this]
end Go.Proofs.YtlekoldicnfeeaaDoor
