/-
  A world in which all but some blocks are as they were; maps keyed by numbers, as they lie in memory. No function of the program is named.
-/
import Derived.Test.YtbgpjaniohpfaaaRows
import Derived.Test.YtbgpjaniohpfaaaS2
import Derived.Maps.OwnSet
import Derived.Maps.OwnOps
namespace Go.Proofs.Ytbgpjaniohpfaaa
open Go.RowKit Go.Deep
open Go.Maps (Keyed int_keyed keyOf_int_mk)
/-- All blocks but some are as they were. -/
structure Kp (X : List Nat) (w w' : World) : Prop where
  os : w'.os = w.os
  tape : w'.tape = w.tape
  output : w'.output = w.output
  size : w.heap.size ≤ w'.heap.size
  block : ∀ k, k < w.heap.size → k ∉ X → w'.heap[k]? = w.heap[k]?
theorem Kp.refl (X : List Nat) (w : World) : Kp X w w := ⟨rfl, rfl, rfl, Nat.le_refl _, fun _ _ _ => rfl⟩
theorem Kp.trans {X : List Nat} {a b c : World} (h : Kp X a b) (k : Kp X b c) : Kp X a c :=
  ⟨k.os.trans h.os, k.tape.trans h.tape, k.output.trans h.output, Nat.le_trans h.size k.size, fun i hi hx => (k.block i (Nat.lt_of_lt_of_le hi h.size) hx).trans (h.block i hi hx)⟩
theorem Kp.mono {X Y : List Nat} {w w' : World} (h : Kp X w w') (hX : ∀ x ∈ X, x ∈ Y) : Kp Y w w' := ⟨h.os, h.tape, h.output, h.size, fun k hk hy => h.block k hk (fun hx => hy (hX k hx))⟩
/-- What was made on the way may be written as one likes. -/
theorem Kp.fresh {X Y : List Nat} {w w' : World} (h : Kp Y w w') (hX : ∀ y ∈ Y, y ∈ X ∨ w.heap.size ≤ y) : Kp X w w' := ⟨h.os, h.tape, h.output, h.size, fun k hk hy => h.block k hk (fun hx => by rcases hX k hx with h | h; exact hy h; omega)⟩
theorem Kp.then {X Y : List Nat} {a b c : World} (h : Kp X a b) (k : Kp Y b c) (hY : ∀ y ∈ Y, y ∈ X ∨ a.heap.size ≤ y) : Kp X a c :=
  ⟨k.os.trans h.os, k.tape.trans h.tape, k.output.trans h.output, Nat.le_trans h.size k.size, fun i hi hx => (k.block i (Nat.lt_of_lt_of_le hi h.size) (fun hy => by rcases hY i hy with h | h; exact hx h; omega)).trans (h.block i hi hx)⟩
theorem Kp.alloc (X : List Nat) (w : World) (o : Obj) : Kp X w (w.alloc o) := ⟨rfl, rfl, rfl, by simp, fun k hk _ => Below.heap_alloc _ _ _ hk⟩
theorem Kp.drew {X : List Nat} {a w : World} (h : Kp X a w) : Kp X a w.drew := ⟨h.os, h.tape, h.output, h.size, h.block⟩
theorem Kp.drewN {X : List Nat} {a w : World} (h : Kp X a w) (n : Nat) : Kp X a (w.drewN n) := ⟨h.os, h.tape, h.output, h.size, h.block⟩
theorem Kp.setCell {X : List Nat} (w : World) (p : Addr) (hp : p.block ∈ X) (u : Value) : Kp X w (w.setCell p u) :=
  ⟨rfl, rfl, rfl, by simp [World.setCell], fun k _ hx => Below.heap_setCell _ _ _ _ (fun e => hx (e ▸ hp))⟩
theorem Kp.of_below {X : List Nat} {w w' : World} (h : Below w.heap.size w w') : Kp X w w' := ⟨h.os, h.tape, h.output, h.size, fun k hk _ => h.block k hk⟩
theorem Kp.of_grown {X : List Nat} {w w' : World} {row : Option Nat} (h : w.grownBy w' row) (hr : ∀ k, row = some k → k ∈ X) : Kp X w w' := ⟨h.os, h.tape, h.output, h.size, fun k hk hx => h.block k hk (fun e => hx (hr k e.symm))⟩
theorem Kp.below {X : List Nat} {w w' : World} {B : Nat} (h : Kp X w w') (hB : B ≤ w.heap.size) (hX : ∀ x ∈ X, B ≤ x) : Below B w w' :=
  ⟨h.os, h.tape, h.output, h.size, fun k hk => h.block k (Nat.lt_of_lt_of_le hk hB) (fun hx => by have := hX k hx; omega)⟩
theorem Kp.cell {X : List Nat} {w w' : World} (h : Kp X w w') {p : Addr} {v : Value} (hc : w.cell? p = some v) (hp : p.block ∉ X) : w'.cell? p = some v :=
  (World.cell?_of_block (w := w) (h.block p.block (World.block_lt_of_cell? _ _ hc) hp)).trans hc
theorem Kp.frozen {X : List Nat} {w w' : World} (h : Kp X w w') {p : Addr} (hl : p.block < w.heap.size) (hp : p.block ∉ X) : w'.frozen? p = w.frozen? p := World.frozen?_of_block (w := w) (h.block p.block hl hp)
/-- A block in which no type lies. -/
def Small (w : World) (b : Nat) : Prop := ∀ o, w.cell? ⟨b, o, none⟩ = none ∨ w.cell? ⟨b, o + 1, none⟩ = none
theorem TyIn.kp {X : List Nat} {w w' : World} {cs : List Value} {T : Ty} (h : TyIn w cs T) (hb : Kp X w w') (hX : ∀ x ∈ X, Small w x) : TyIn w' cs T := by
  induction h with
  | mk k n s e l p cap b o C hp hw hc hr ih =>
    refine TyIn.mk k n s e l p cap b o C hp hw ?_ ih
    intro i hi j hj
    have hl : (C i).length = 5 := by
      have := hr i hi
      cases hC : l[i] with
      | mk k' n' s' e' l' =>
        rw [hC] at this
        generalize C i = cs at this
        cases this
        rfl
    have h1 := hc i hi j hj
    rw [List.getElem?_eq_getElem (by omega)] at h1
    have hbX : b ∉ X := by
      intro hx
      have g0 := hc i hi 0 (by omega)
      have g1 := hc i hi 1 (by omega)
      rw [List.getElem?_eq_getElem (by omega)] at g0 g1
      rcases hX b hx (o + (i * 5 + 0)) with hh | hh
      · rw [hh] at g0; cases g0
      · rw [show o + (i * 5 + 0) + 1 = o + (i * 5 + 1) from by omega, g1] at hh
        cases hh
    have := hb.cell (p := ⟨b, o + (i * 5 + j), none⟩) h1 hbX
    rw [this, List.getElem?_eq_getElem (by omega)]
theorem Kp.tys {X : List Nat} {w w' : World} (hb : Kp X w w') (hX : ∀ x ∈ X, Small w x) : ∀ {cs : List Value} {T : Ty}, TyIn w cs T → TyIn w' cs T := fun h => h.kp hb hX
/-! ### maps keyed by numbers -/
def heldR : Value → Option (DataW Value × List MemPlace) := fun v => some (.held v, [])
theorem keyed3 : Keyed Try.prog 3 := int_keyed (q := .i64) (by kernel_rfl)
/-- Block b is a map of n entries. -/
def MapAt (w : World) (b n : Nat) (F : Int → Option Value) : Prop :=
  ∃ D : DataW Value, w.ownsMap Try.prog 3 heldR b n D ∧ Maps.size D = n ∧ ∀ x, (Lit.int .i64 x).wf = true → Maps.has D (.int .i64 x) = (F x).isSome ∧ ∀ z, D.atKey (.int .i64 x) (.held z) = .held ((F x).getD z)
theorem MapAt.made (w : World) : MapAt (w.alloc (.map #[] 0)) w.heap.size 0 (fun _ => none) := ⟨.map [], World.ownsMap_made w Try.prog 3 heldR, rfl, fun _ _ => ⟨rfl, fun _ => rfl⟩⟩
theorem MapAt.lt {w : World} {b n : Nat} {F : Int → Option Value} (h : MapAt w b n F) : b < w.heap.size := by
  obtain ⟨D, h1, _⟩ := h
  exact h1.lt
theorem MapAt.kp {X : List Nat} {w w' : World} {b n : Nat} {F : Int → Option Value} (h : MapAt w b n F) (hk : Kp X w w') (hb : b ∉ X) : MapAt w' b n F := by
  have hlt := h.lt
  obtain ⟨D, ⟨es, clock, h1, h2⟩, h3⟩ := h
  exact ⟨D, ⟨es, clock, (hk.block b hlt hb).trans h1, h2⟩, h3⟩
theorem MapAt.small {w : World} {b n : Nat} {F : Int → Option Value} (h : MapAt w b n F) : Small w b := by
  obtain ⟨D, ⟨es, clock, h1, h2⟩, h3⟩ := h
  intro o
  exact .inl (by simp [World.cell?, h1])
theorem MapAt.ne {w : World} {b n : Nat} {F : Int → Option Value} (h : MapAt w b n F) {p : Addr} {v : Value} (hc : w.cell? p = some v) : p.block ≠ b := by
  obtain ⟨D, ⟨es, clock, h1, h2⟩, h3⟩ := h
  intro e
  simp [World.cell?, e, h1] at hc
theorem MapAt.lookOk {w : World} {b n : Nat} {F : Int → Option Value} (h : MapAt w b n F) {t e : TypeId} (ht : Try.prog.underlying t = some (.map 3 e)) {z : Value} (hz : ∀ w, (zeroValue e).run Try.prog w = .ok z w) {x : Int} (hx : (Lit.int .i64 x).wf = true) :
    (Instr.lookup t (.map (some b)) (.int .i64 x) true).run Try.prog w = .ok (.tuple #[(F x).getD z, .bool (F x).isSome]) w := by
  obtain ⟨D, h1, _, h3⟩ := h
  obtain ⟨v, ps, hrun, hv⟩ := h1.look_ok keyed3 ht (hz w) (zd := .held z) (zp := []) rfl (keyOf_int_mk (by kernel_rfl) hx)
  obtain ⟨e1, e2⟩ := h3 x hx
  rw [e2] at hv
  have : v = (F x).getD z := by
    unfold heldR at hv
    simp only [Option.some.injEq, Prod.mk.injEq] at hv
    exact DataW.held.inj hv.1
  rw [hrun, e1, this]
theorem MapAt.look {w : World} {b n : Nat} {F : Int → Option Value} (h : MapAt w b n F) {t e : TypeId} (ht : Try.prog.underlying t = some (.map 3 e)) {z : Value} (hz : ∀ w, (zeroValue e).run Try.prog w = .ok z w) {x : Int} (hx : (Lit.int .i64 x).wf = true) :
    (Instr.lookup t (.map (some b)) (.int .i64 x) false).run Try.prog w = .ok ((F x).getD z) w := by
  obtain ⟨D, h1, _, h3⟩ := h
  obtain ⟨v, ps, hrun, hv⟩ := h1.lookup keyed3 ht (hz w) (zd := .held z) (zp := []) rfl (keyOf_int_mk (by kernel_rfl) hx)
  obtain ⟨e1, e2⟩ := h3 x hx
  rw [e2] at hv
  have : v = (F x).getD z := by
    unfold heldR at hv
    simp only [Option.some.injEq, Prod.mk.injEq] at hv
    exact DataW.held.inj hv.1
  rw [hrun, this]
theorem MapAt.len {w : World} {b n : Nat} {F : Int → Option Value} (h : MapAt w b n F) {t e : TypeId} (ht : Try.prog.underlying t = some (.map 3 e)) (ty : TypeId) : (Builtin.len_ #[t] ty #[.map (some b)]).run Try.prog w = .ok (.int .i64 n) w := by
  obtain ⟨D, h1, h2, h3⟩ := h
  rw [h1.len ht ty, h2]
theorem tight {w : World} {b n : Nat} {D : DataW Value} (h : w.ownsMap Try.prog 3 heldR b n D) : w.ownsMap Try.prog 3 heldR b (Maps.size D) D := by
  obtain ⟨es, clock, h1, h2, h3, rfl⟩ := h
  refine ⟨es, clock, h1, h2, ?_, rfl⟩
  simp [Maps.size, Go.length_sorted]
theorem MapAt.store {w : World} {b n : Nat} {F : Int → Option Value} (h : MapAt w b n F) {t e : TypeId} (ht : Try.prog.underlying t = some (.map 3 e)) (hn : n < maxLen) {x : Int} (hx : (Lit.int .i64 x).wf = true) (v : Value) :
    ∃ w', (Instr.mapUpdate t (.map (some b)) (.int .i64 x) v).run Try.prog w = .ok () w' ∧ MapAt w' b (if (F x).isSome = true then n else n + 1) (upd F x (some v)) ∧ Kp [b] w w' := by
  obtain ⟨D, h1, h2, h3⟩ := h
  have hkey := keyOf_int_mk (P := Try.prog) (k := 3) (q := .i64) (by kernel_rfl) hx
  obtain ⟨w', hrun, hown, hg⟩ := h1.update keyed3 ht hn hkey (d := .held v) (ps := []) (val := v) rfl
  have htidy := h1.tidy keyed3
  have hkl : WideAt.IsKeyLit (Lit.int .i64 x) := by
    have := (keyed3).one
    trivial
  refine ⟨w', hrun, ⟨D.put (.int .i64 x) (.held v), ?_, ?_, ?_⟩, Kp.of_grown hg (by rintro k ⟨⟩; simp)⟩
  · have := tight hown
    rw [Maps.size_put htidy, (h3 x hx).1] at this
    rw [h2] at this
    exact this
  · rw [Maps.size_put htidy, (h3 x hx).1, h2]
  · intro y hy
    by_cases hxy : y = x
    · subst hxy
      rw [upd_same]
      exact ⟨Maps.has_put_same htidy.isMap hkl _, fun z => Maps.atKey_put_same htidy.isMap hkl _ _⟩
    · rw [upd_other _ _ hxy, Maps.has_put_other (by simpa using hxy), (h3 y hy).1]
      exact ⟨rfl, fun z => by rw [Maps.atKey_put_other (by simpa using hxy)]; exact (h3 y hy).2 z⟩
end Go.Proofs.Ytbgpjaniohpfaaa
