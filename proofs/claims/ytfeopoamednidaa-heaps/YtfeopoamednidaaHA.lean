/-
  What the texts of the layer heap import; all blocks but some; maps keyed by numbers.
-/
import Derived.Test.YtfeopoamednidaaRows
import Derived.WalkKit
import Derived.WalkSpells
import Derived.WalkLawsBesides
import Derived.Deep.Slices
import Derived.Deep.Heap
import Derived.RegionTactic
import Derived.BigRegion
import Derived.BigFrame
import Derived.BigQuiet
import Derived.Deep.LoopGhost
import Derived.Deep.Cut
import Derived.Deep.CutBlock
import Derived.Deep.CutRange
import Derived.Deep.QuietTactic
import Derived.Deep.RegionWith
import Derived.Deep.RegionLaw
import Derived.Deep.AppendLies
import Derived.Maps.AppendAt
import Derived.Maps.OwnSet
import Derived.Maps.OwnOps
import Derived.OwnWalk
import Derived.Laws.AppendOwnNone
namespace Go.Proofs.Ytfeopoamednidaa
open Go.RowKit Go.Deep
open Go.Maps (Keyed int_keyed keyOf_int_mk)
def upd {α : Type} (f : Int → α) (x : Int) (v : α) : Int → α := fun y => if y = x then v else f y
theorem upd_same {α : Type} (f : Int → α) (x : Int) (v : α) : upd f x v x = v := if_pos rfl
theorem upd_other {α : Type} (f : Int → α) {x : Int} (v : α) {y : Int} (h : y ≠ x) : upd f x v y = f y := if_neg h
/-- All blocks but some are as they were. -/
structure Kp (X : List Nat) (w w' : World) : Prop where
  os : w'.os = w.os
  tape : w'.tape = w.tape
  output : w'.output = w.output
  size : w.heap.size ≤ w'.heap.size
  block : ∀ k, k < w.heap.size → k ∉ X → w'.heap[k]? = w.heap[k]?
theorem Kp.refl (X : List Nat) (w : World) : Kp X w w := ⟨rfl, rfl, rfl, Nat.le_refl _, fun _ _ _ => rfl⟩
theorem Kp.trans {X : List Nat} {a b c : World} (h : Kp X a b) (k : Kp X b c) : Kp X a c :=
  ⟨k.os.trans h.os, k.tape.trans h.tape, k.output.trans h.output, Nat.le_trans h.size k.size, fun i hi hx => (k.block i (Nat.lt_of_lt_of_le hi h.size) hx).trans (h.block i hi hx)⟩
theorem Kp.mono {X Y : List Nat} {w w' : World} (h : Kp X w w') (hX : ∀ x ∈ X, x ∈ Y) : Kp Y w w' := ⟨h.os, h.tape, h.output, h.size, fun k hk hy => h.block k hk (fun hx => hy (hX k hx))⟩
/-- What was made on the way may be written as one likes. -/
theorem Kp.fresh {X Y : List Nat} {w w' : World} (h : Kp Y w w') (hX : ∀ y ∈ Y, y ∈ X ∨ w.heap.size ≤ y) : Kp X w w' := ⟨h.os, h.tape, h.output, h.size, fun k hk hy => h.block k hk (fun hx => by rcases hX k hx with h | h; exact hy h; omega)⟩
theorem Kp.then {X Y : List Nat} {a b c : World} (h : Kp X a b) (k : Kp Y b c) (hY : ∀ y ∈ Y, y ∈ X ∨ a.heap.size ≤ y) : Kp X a c :=
  ⟨k.os.trans h.os, k.tape.trans h.tape, k.output.trans h.output, Nat.le_trans h.size k.size, fun i hi hx => (k.block i (Nat.lt_of_lt_of_le hi h.size) (fun hy => by rcases hY i hy with h | h; exact hx h; omega)).trans (h.block i hi hx)⟩
theorem Kp.alloc (X : List Nat) (w : World) (o : Obj) : Kp X w (w.alloc o) := ⟨rfl, rfl, rfl, by simp, fun k hk _ => Below.heap_alloc _ _ _ hk⟩
theorem Kp.drew {X : List Nat} {a w : World} (h : Kp X a w) : Kp X a w.drew := ⟨h.os, h.tape, h.output, h.size, h.block⟩
theorem Kp.drewN {X : List Nat} {a w : World} (h : Kp X a w) (n : Nat) : Kp X a (w.drewN n) := ⟨h.os, h.tape, h.output, h.size, h.block⟩
theorem Kp.setCell {X : List Nat} (w : World) (p : Addr) (hp : p.block ∈ X) (u : Value) : Kp X w (w.setCell p u) :=
  ⟨rfl, rfl, rfl, by simp [World.setCell], fun k _ hx => Below.heap_setCell _ _ _ _ (fun e => hx (e ▸ hp))⟩
theorem Kp.of_below {X : List Nat} {w w' : World} (h : Below w.heap.size w w') : Kp X w w' := ⟨h.os, h.tape, h.output, h.size, fun k hk _ => h.block k hk⟩
theorem Kp.of_grown {X : List Nat} {w w' : World} {row : Option Nat} (h : w.grownBy w' row) (hr : ∀ k, row = some k → k ∈ X) : Kp X w w' := ⟨h.os, h.tape, h.output, h.size, fun k hk hx => h.block k hk (fun e => hx (hr k e.symm))⟩
theorem Kp.below {X : List Nat} {w w' : World} {B : Nat} (h : Kp X w w') (hB : B ≤ w.heap.size) (hX : ∀ x ∈ X, B ≤ x) : Below B w w' :=
  ⟨h.os, h.tape, h.output, h.size, fun k hk => h.block k (Nat.lt_of_lt_of_le hk hB) (fun hx => by have := hX k hx; omega)⟩
theorem Kp.cell {X : List Nat} {w w' : World} (h : Kp X w w') {p : Addr} {v : Value} (hc : w.cell? p = some v) (hp : p.block ∉ X) : w'.cell? p = some v :=
  (World.cell?_of_block (w := w) (h.block p.block (World.block_lt_of_cell? _ _ hc) hp)).trans hc
theorem Kp.frozen {X : List Nat} {w w' : World} (h : Kp X w w') {p : Addr} (hl : p.block < w.heap.size) (hp : p.block ∉ X) : w'.frozen? p = w.frozen? p := World.frozen?_of_block (w := w) (h.block p.block hl hp)
/-! ### maps keyed by numbers -/
def heldR : Value → Option (DataW Value × List MemPlace) := fun v => some (.held v, [])
theorem keyed3 : Keyed Try.prog 3 := int_keyed (q := .i64) (by kernel_rfl)
/-- Block b is a map of n entries. -/
def MapAt (w : World) (b n : Nat) (F : Int → Option Value) : Prop :=
  ∃ D : DataW Value, w.ownsMap Try.prog 3 heldR b n D ∧ Maps.size D = n ∧ ∀ x, (Lit.int .i64 x).wf = true → Maps.has D (.int .i64 x) = (F x).isSome ∧ ∀ z, D.atKey (.int .i64 x) (.held z) = .held ((F x).getD z)
theorem MapAt.made (w : World) : MapAt (w.alloc (.map #[] 0)) w.heap.size 0 (fun _ => none) := ⟨.map [], World.ownsMap_made w Try.prog 3 heldR, rfl, fun _ _ => ⟨rfl, fun _ => rfl⟩⟩
theorem MapAt.lt {w : World} {b n : Nat} {F : Int → Option Value} (h : MapAt w b n F) : b < w.heap.size := by
  obtain ⟨D, h1, _⟩ := h
  exact h1.lt
theorem MapAt.kp {X : List Nat} {w w' : World} {b n : Nat} {F : Int → Option Value} (h : MapAt w b n F) (hk : Kp X w w') (hb : b ∉ X) : MapAt w' b n F := by
  have hlt := h.lt
  obtain ⟨D, ⟨es, clock, h1, h2⟩, h3⟩ := h
  exact ⟨D, ⟨es, clock, (hk.block b hlt hb).trans h1, h2⟩, h3⟩
theorem MapAt.ne {w : World} {b n : Nat} {F : Int → Option Value} (h : MapAt w b n F) {p : Addr} {v : Value} (hc : w.cell? p = some v) : p.block ≠ b := by
  obtain ⟨D, ⟨es, clock, h1, h2⟩, h3⟩ := h
  intro e
  simp [World.cell?, e, h1] at hc
theorem MapAt.lookOk {w : World} {b n : Nat} {F : Int → Option Value} (h : MapAt w b n F) {t e : TypeId} (ht : Try.prog.underlying t = some (.map 3 e)) {z : Value} (hz : ∀ w, (zeroValue e).run Try.prog w = .ok z w) {x : Int} (hx : (Lit.int .i64 x).wf = true) :
    (Instr.lookup t (.map (some b)) (.int .i64 x) true).run Try.prog w = .ok (.tuple #[(F x).getD z, .bool (F x).isSome]) w := by
  obtain ⟨D, h1, _, h3⟩ := h
  obtain ⟨v, ps, hrun, hv⟩ := h1.look_ok keyed3 ht (hz w) (zd := .held z) (zp := []) rfl (keyOf_int_mk (by kernel_rfl) hx)
  obtain ⟨e1, e2⟩ := h3 x hx
  rw [e2] at hv
  have : v = (F x).getD z := by
    unfold heldR at hv
    simp only [Option.some.injEq, Prod.mk.injEq] at hv
    exact DataW.held.inj hv.1
  rw [hrun, e1, this]
theorem MapAt.look {w : World} {b n : Nat} {F : Int → Option Value} (h : MapAt w b n F) {t e : TypeId} (ht : Try.prog.underlying t = some (.map 3 e)) {z : Value} (hz : ∀ w, (zeroValue e).run Try.prog w = .ok z w) {x : Int} (hx : (Lit.int .i64 x).wf = true) :
    (Instr.lookup t (.map (some b)) (.int .i64 x) false).run Try.prog w = .ok ((F x).getD z) w := by
  obtain ⟨D, h1, _, h3⟩ := h
  obtain ⟨v, ps, hrun, hv⟩ := h1.lookup keyed3 ht (hz w) (zd := .held z) (zp := []) rfl (keyOf_int_mk (by kernel_rfl) hx)
  obtain ⟨e1, e2⟩ := h3 x hx
  rw [e2] at hv
  have : v = (F x).getD z := by
    unfold heldR at hv
    simp only [Option.some.injEq, Prod.mk.injEq] at hv
    exact DataW.held.inj hv.1
  rw [hrun, this]
theorem MapAt.len {w : World} {b n : Nat} {F : Int → Option Value} (h : MapAt w b n F) {t e : TypeId} (ht : Try.prog.underlying t = some (.map 3 e)) (ty : TypeId) : (Builtin.len_ #[t] ty #[.map (some b)]).run Try.prog w = .ok (.int .i64 n) w := by
  obtain ⟨D, h1, h2, h3⟩ := h
  rw [h1.len ht ty, h2]
theorem tight {w : World} {b n : Nat} {D : DataW Value} (h : w.ownsMap Try.prog 3 heldR b n D) : w.ownsMap Try.prog 3 heldR b (Maps.size D) D := by
  obtain ⟨es, clock, h1, h2, h3, rfl⟩ := h
  refine ⟨es, clock, h1, h2, ?_, rfl⟩
  simp [Maps.size, Go.length_sorted]
theorem MapAt.store {w : World} {b n : Nat} {F : Int → Option Value} (h : MapAt w b n F) {t e : TypeId} (ht : Try.prog.underlying t = some (.map 3 e)) (hn : n < maxLen) {x : Int} (hx : (Lit.int .i64 x).wf = true) (v : Value) :
    ∃ w', (Instr.mapUpdate t (.map (some b)) (.int .i64 x) v).run Try.prog w = .ok () w' ∧ MapAt w' b (if (F x).isSome = true then n else n + 1) (upd F x (some v)) ∧ Kp [b] w w' := by
  obtain ⟨D, h1, h2, h3⟩ := h
  have hkey := keyOf_int_mk (P := Try.prog) (k := 3) (q := .i64) (by kernel_rfl) hx
  obtain ⟨w', hrun, hown, hg⟩ := h1.update keyed3 ht hn hkey (d := .held v) (ps := []) (val := v) rfl
  have htidy := h1.tidy keyed3
  have hkl : WideAt.IsKeyLit (Lit.int .i64 x) := by
    have := (keyed3).one
    trivial
  refine ⟨w', hrun, ⟨D.put (.int .i64 x) (.held v), ?_, ?_, ?_⟩, Kp.of_grown hg (by rintro k ⟨⟩; simp)⟩
  · have := tight hown
    rw [Maps.size_put htidy, (h3 x hx).1] at this
    rw [h2] at this
    exact this
  · rw [Maps.size_put htidy, (h3 x hx).1, h2]
  · intro y hy
    by_cases hxy : y = x
    · subst hxy
      rw [upd_same]
      exact ⟨Maps.has_put_same htidy.isMap hkl _, fun z => Maps.atKey_put_same htidy.isMap hkl _ _⟩
    · rw [upd_other _ _ hxy, Maps.has_put_other (by simpa using hxy), (h3 y hy).1]
      exact ⟨rfl, fun z => by rw [Maps.atKey_put_other (by simpa using hxy)]; exact (h3 y hy).2 z⟩
end Go.Proofs.Ytfeopoamednidaa
namespace Go.Proofs.Ytfeopoamednidaa
open Go.RowKit Go.Deep
/-- A cell: is it an address? Its number. -/
structure Cl where
  p : Bool
  n : Int
deriving DecidableEq
instance : Inhabited Cl := ⟨⟨false, 0⟩⟩
structure Th where
  kind : Int
  tag : Int
  fs : List Cl
instance : Inhabited Th := ⟨⟨0, 0, []⟩⟩
abbrev Doc := Int → Option Th
/-- A thing is reached. -/
inductive Reach (D : Doc) (rs : List Cl) : Int → Prop
  | root (b : Int) (h : ⟨true, b⟩ ∈ rs) : Reach D rs b
  | field (a b : Int) (t : Th) (h : Reach D rs a) (ht : D a = some t) (hf : ⟨true, b⟩ ∈ t.fs) : Reach D rs b
def fsOf (D : Doc) (b : Int) : List Cl := ((D b).getD default).fs
/-- How many cells things take. -/
def cellsT (D : Doc) : List Int → Nat
  | [] => 0
  | b :: V => 1 + (fsOf D b).length + cellsT D V
def fieldsT (D : Doc) : List Int → Nat
  | [] => 0
  | b :: V => (fsOf D b).length + fieldsT D V
theorem fieldsT_snoc (D : Doc) (V : List Int) (b : Int) : fieldsT D (V ++ [b]) = fieldsT D V + (fsOf D b).length := by
  induction V with
  | nil => simp [fieldsT]
  | cons a V ih => simp [fieldsT, ih]; omega
theorem cellsT_snoc (D : Doc) (V : List Int) (b : Int) : cellsT D (V ++ [b]) = cellsT D V + 1 + (fsOf D b).length := by
  induction V with
  | nil => simp [cellsT]
  | cons a V ih => simp [cellsT, ih]; omega
theorem cellsT_eq (D : Doc) (V : List Int) : cellsT D V = V.length + fieldsT D V := by
  induction V with
  | nil => rfl
  | cons a V ih => simp [cellsT, fieldsT, ih]; omega
theorem fieldsT_erase (D : Doc) (W : List Int) {b : Int} (h : b ∈ W) : fieldsT D W = (fsOf D b).length + fieldsT D (W.erase b) := by
  induction W with
  | nil => cases h
  | cons a W ih =>
    by_cases hab : a = b
    · subst hab
      rw [List.erase_cons_head, fieldsT]
    · have hb : b ∈ W := by
        rcases List.mem_cons.1 h with h | h
        · exact absurd h.symm hab
        · exact h
      rw [List.erase_cons_tail (by simpa using hab), fieldsT, fieldsT, ih hb]
      omega
theorem fieldsT_sub (D : Doc) : ∀ (V W : List Int), V.Nodup → (∀ x ∈ V, x ∈ W) → fieldsT D V ≤ fieldsT D W
  | [], _, _, _ => Nat.zero_le _
  | b :: V, W, hn, hs => by
    have hn' := List.nodup_cons.1 hn
    rw [fieldsT, fieldsT_erase D W (hs b (by simp))]
    have := fieldsT_sub D V (W.erase b) hn'.2 (fun y hy => (List.mem_erase_of_ne (fun (e : y = b) => hn'.1 (e ▸ hy))).2 (hs y (by simp [hy])))
    omega
theorem len_sub : ∀ (a b : List Int), a.Nodup → (∀ x ∈ a, x ∈ b) → a.length ≤ b.length
  | [], b, _, _ => Nat.zero_le _
  | x :: a, b, hn, hs => by
    have hn' := List.nodup_cons.1 hn
    have hx := hs x (by simp)
    have := len_sub a (b.erase x) hn'.2 (fun y hy => (List.mem_erase_of_ne (fun (e : y = x) => hn'.1 (e ▸ hy))).2 (hs y (by simp [hy])))
    rw [List.length_erase_of_mem hx] at this
    have : 0 < b.length := List.length_pos_of_mem hx
    simp
    omega
/-- The cells of what is reached: whichever way it is counted. -/
theorem cellsT_same (D : Doc) {V W : List Int} (hV : V.Nodup) (hW : W.Nodup) (h : ∀ b, b ∈ V ↔ b ∈ W) : cellsT D V = cellsT D W := by
  have h1 := fieldsT_sub D V W hV (fun x hx => (h x).1 hx)
  have h2 := fieldsT_sub D W V hW (fun x hx => (h x).2 hx)
  have h3 := len_sub V W hV (fun x hx => (h x).1 hx)
  have h4 := len_sub W V hW (fun x hx => (h x).2 hx)
  rw [cellsT_eq, cellsT_eq]
  omega
/-- What the search has before it: the roots, and the fields of what was visited. -/
def todoL (D : Doc) (rs : List Cl) (V : List Int) : List Cl := rs ++ V.flatMap (fsOf D)
theorem todoL_snoc (D : Doc) (rs : List Cl) (V : List Int) (b : Int) : todoL D rs (V ++ [b]) = todoL D rs V ++ fsOf D b := by simp [todoL]
theorem todoL_len (D : Doc) (rs : List Cl) (V : List Int) : (todoL D rs V).length = rs.length + fieldsT D V := by
  induction V with
  | nil => simp [todoL, fieldsT]
  | cons a V ih =>
    unfold todoL at *
    simp [fieldsT] at *
    omega
theorem todoL_reach {D : Doc} {rs : List Cl} {V : List Int} (hV : ∀ b ∈ V, Reach D rs b ∧ (D b).isSome = true) {b : Int} (h : ⟨true, b⟩ ∈ todoL D rs V) : Reach D rs b := by
  rcases List.mem_append.1 h with h | h
  · exact Reach.root b h
  · obtain ⟨a, ha, hb⟩ := List.mem_flatMap.1 h
    obtain ⟨h1, h2⟩ := hV a ha
    obtain ⟨t, ht⟩ := Option.isSome_iff_exists.1 h2
    exact Reach.field a b t h1 ht (by unfold fsOf at hb; rw [ht] at hb; exact hb)
/-- At the end all that is reached was visited. -/
theorem todoL_all {D : Doc} {rs : List Cl} {V : List Int} (h : ∀ b, ⟨true, b⟩ ∈ todoL D rs V → b ∈ V) : ∀ b, Reach D rs b → b ∈ V := by
  intro b hb
  induction hb with
  | root b hr => exact h b (List.mem_append_left _ hr)
  | field a b t _ ht hf ih => exact h b (List.mem_append_right _ (List.mem_flatMap.2 ⟨a, ih, by unfold fsOf; rw [ht]; exact hf⟩))
/-- The things that were kept. -/
def keptD (D : Doc) (V : List Int) : Doc := fun b => if b ∈ V then D b else none
/-- What Live answers. -/
inductive LiveIs (D : Doc) (rs : List Cl) (n : Nat) (D' : Doc) : Prop
  | mk (V : List Int) (hn : V.Nodup) (hV : ∀ b, b ∈ V ↔ Reach D rs b) (hc : n = cellsT D V) (hD : D' = keptD D V) : LiveIs D rs n D'
theorem reach_kept {D : Doc} {rs : List Cl} {V : List Int} (hV : ∀ b, b ∈ V ↔ Reach D rs b) (b : Int) : Reach (keptD D V) rs b ↔ Reach D rs b := by
  constructor
  · intro h
    induction h with
    | root b h => exact Reach.root b h
    | field a b t _ ht hf ih =>
      refine Reach.field a b t ih ?_ hf
      unfold keptD at ht
      split at ht
      · exact ht
      · cases ht
  · intro h
    induction h with
    | root b h => exact Reach.root b h
    | field a b t ha ht hf ih =>
      refine Reach.field a b t ih ?_ hf
      unfold keptD
      rw [if_pos ((hV a).2 ha)]
      exact ht
end Go.Proofs.Ytfeopoamednidaa
namespace Go.Proofs.Ytfeopoamednidaa
open Go.RowKit Go.Deep
theorem add_at (g o j : Nat) : (⟨g, o, none⟩ : Addr).add j = ⟨g, o + j, none⟩ := by unfold Addr.add; split <;> simp_all
def Cl.vals (c : Cl) : List Value := [.bool c.p, .int .i64 c.n]
def Cl.val (c : Cl) : Value := .agg #[.bool c.p, .int .i64 c.n]
/-- A row of cells. -/
structure RowC (w : World) (p : Option Addr) (l : List Cl) : Prop where
  len : l.length ≤ maxLen
  get : ∀ i (hi : i < l.length), ∃ b o, p = some ⟨b, o, none⟩ ∧ w.cell? ⟨b, o + i * 2, none⟩ = some (.bool (l[i]'hi).p) ∧ w.cell? ⟨b, o + i * 2 + 1, none⟩ = some (.int .i64 (l[i]'hi).n)
theorem RowC.nil (w : World) (p : Option Addr) : RowC w p [] := ⟨Nat.zero_le _, fun i hi => by cases hi⟩
theorem RowC.lt {w : World} {p : Option Addr} {l : List Cl} (h : RowC w p l) (hl : l ≠ []) : ∀ b : Addr, p = some b → b.block < w.heap.size := fun b hb => by
  obtain ⟨b', o, h1, h2, _⟩ := h.get 0 (List.length_pos_iff.2 hl)
  rw [hb] at h1
  cases h1
  exact World.block_lt_of_cell? _ _ h2
theorem RowC.block {w w' : World} {p : Option Addr} {l : List Cl} (h : RowC w p l) (hk : l ≠ [] → ∀ b : Addr, p = some b → w'.heap[b.block]? = w.heap[b.block]?) : RowC w' p l := by
  refine ⟨h.len, fun i hi => ?_⟩
  obtain ⟨b, o, h1, h2, h3⟩ := h.get i hi
  have hb := hk (fun e => by rw [e] at hi; cases hi) _ h1
  have e : ∀ j, w'.cell? ⟨b, j, none⟩ = w.cell? ⟨b, j, none⟩ := fun j => World.cell?_of_block (w := w) hb
  exact ⟨b, o, h1, (e _).trans h2, (e _).trans h3⟩
theorem RowC.below {w w' : World} {p : Option Addr} {l : List Cl} (h : RowC w p l) (hb : Below w.heap.size w w') : RowC w' p l := h.block (fun hl b hp => hb.block _ (h.lt hl b hp))
theorem RowC.kp {X : List Nat} {w w' : World} {p : Option Addr} {l : List Cl} (h : RowC w p l) (hk : Kp X w w') (hX : ∀ b : Addr, p = some b → b.block ∉ X) : RowC w' p l := h.block (fun hl b hp => hk.block _ (h.lt hl b hp) (hX b hp))
def cellsV (l : List Cl) : List Value := l.flatMap Cl.vals
theorem cellsV_app (a b : List Cl) : cellsV (a ++ b) = cellsV a ++ cellsV b := by simp [cellsV]
theorem cellsV_len (l : List Cl) : (cellsV l).length = l.length * 2 := by
  induction l with
  | nil => rfl
  | cons x r ih =>
    have : cellsV (x :: r) = x.vals ++ cellsV r := rfl
    rw [this, List.length_append, ih]
    simp [Cl.vals]
    omega
theorem cellsV_get : ∀ (l : List Cl) (i : Nat) (hi : i < l.length) (j : Nat), j < 2 → (cellsV l)[i * 2 + j]? = (l[i]'hi).vals[j]?
  | x :: r, 0, _, j, hj => by
    have : cellsV (x :: r) = x.vals ++ cellsV r := rfl
    rw [this, Nat.zero_mul, Nat.zero_add, List.getElem?_append_left (by simp [Cl.vals]; omega)]
    rfl
  | x :: r, i + 1, hi, j, hj => by
    have : cellsV (x :: r) = x.vals ++ cellsV r := rfl
    rw [this, List.getElem?_append_right (by simp [Cl.vals]; omega)]
    have e : (i + 1) * 2 + j - x.vals.length = i * 2 + j := by simp [Cl.vals]; omega
    rw [e, cellsV_get r i (by simpa using hi) j hj]
    rfl
theorem cellsV_one (l : List Cl) : ∀ u ∈ cellsV l, u.oneCell' = true := by
  intro u hu
  obtain ⟨x, _, hx⟩ := List.mem_flatMap.1 hu
  simp only [Cl.vals, List.mem_cons, List.not_mem_nil, or_false] at hx
  rcases hx with rfl | rfl <;> rfl
/-- A row of cells of one's own. -/
def OwnC (w : World) (base : Nat) (v : Value) (l : List Cl) : Prop := w.ownsRow base 50 2 v l.length (cellsV l)
theorem OwnC.at {w : World} {base : Nat} {v : Value} {l : List Cl} (h : OwnC w base v l) (hm : l.length ≤ maxLen) : ∃ q cap, v = .slice q l.length cap ∧ l.length ≤ cap ∧ RowC w q l := by
  rcases h.2 with ⟨rfl, h0⟩ | ⟨g, cap, cur, rfl, h1, h2, h3, h4, h5, h6⟩
  · have : l = [] := List.eq_nil_of_length_eq_zero h0
    subst this
    exact ⟨none, 0, rfl, Nat.le_refl _, RowC.nil _ _⟩
  · refine ⟨some ⟨g, 0, none⟩, cap, rfl, h3, ⟨hm, fun i hi => ⟨g, 0, rfl, ?_, ?_⟩⟩⟩
    · have hc := World.ownsRow.cells (g := g) h rfl (i * 2 + 0) (.bool (l[i]'hi).p) (by rw [cellsV_get l i hi 0 (by omega)]; rfl)
      rw [add_at] at hc
      simpa using hc
    · have hc := World.ownsRow.cells (g := g) h rfl (i * 2 + 1) (.int .i64 (l[i]'hi).n) (by rw [cellsV_get l i hi 1 (by omega)]; rfl)
      rw [add_at] at hc
      simpa [Nat.add_assoc] using hc
theorem RowC.cells {w : World} {p : Option Addr} {l : List Cl} (h : RowC w p l) : ∀ j u, (cellsV l)[j]? = some u → ∃ b o, p = some ⟨b, o, none⟩ ∧ w.cell? ⟨b, o + j, none⟩ = some u := by
  intro j u hj
  have hjl : j < l.length * 2 := by
    have := (List.getElem?_eq_some_iff.1 hj).1
    rw [cellsV_len] at this
    exact this
  have hi : j / 2 < l.length := by omega
  obtain ⟨b, o, h1, h2, h3⟩ := h.get (j / 2) hi
  have e := cellsV_get l (j / 2) hi (j % 2) (by omega)
  rw [show j / 2 * 2 + j % 2 = j by omega, hj] at e
  refine ⟨b, o, h1, ?_⟩
  have hcase : j % 2 = 0 ∨ j % 2 = 1 := by omega
  rcases hcase with hh | hh
  · rw [hh] at e
    have : u = .bool (l[j / 2]'hi).p := by simpa [Cl.vals] using e
    rw [this, show o + j = o + j / 2 * 2 by omega]
    exact h2
  · rw [hh] at e
    have : u = .int .i64 (l[j / 2]'hi).n := by simpa [Cl.vals] using e
    rw [this, show o + j = o + j / 2 * 2 + 1 by omega]
    exact h3
theorem infos49 : (Try.prog.info? 50).map (fun i => (i.zero, i.size, i.bytes)) = some (some (.agg #[.bool false, .int .i64 0]), 2, 16) := by kernel_rfl
theorem slice32 : Try.prog.underlying 32 = some (.slice 50) := by kernel_rfl
theorem info_parts {t : TypeId} {z : Option Value} {n b : Nat} (h : (Try.prog.info? t).map (fun i => (i.zero, i.size, i.bytes)) = some (z, n, b)) : ∃ i, Try.prog.info? t = some i ∧ i.zero = z ∧ i.size = n ∧ i.bytes = b := by
  cases hi : Try.prog.info? t with
  | none => rw [hi] at h; cases h
  | some i =>
    rw [hi] at h
    simp only [Option.map_some, Option.some.injEq, Prod.mk.injEq] at h
    exact ⟨i, rfl, h.1, h.2.1, h.2.2⟩
/-- Cells are put behind a row of one's own. -/
theorem run_append_cells {w : World} {base : Nat} {v : Value} {L : List Cl} (ho : OwnC w base v L) {p : Option Addr} {l : List Cl} {cap : Nat} (hr : RowC w p l) (hz : p = none → l.length = 0 ∧ cap = 0) (hl : (L.length + l.length) * 16 ≤ 140737488355328) (hbase : base ≤ w.heap.size) (ty : TypeId) :
    ∃ v' w', (Builtin.append_ #[32, 32] ty #[v, .slice p l.length cap]).run Try.prog w = .ok v' w' ∧ OwnC w' base v' (L ++ l) ∧ w.grownBy w' v.ownBlock ∧ (v'.ownBlock = v.ownBlock ∨ v'.ownBlock = some w.heap.size) := by
  obtain ⟨i0, hi0, hzz0, hzz1, hzz2⟩ := info_parts infos49
  cases p with
  | none =>
    obtain ⟨h1, h2⟩ := hz rfl
    have : l = [] := List.eq_nil_of_length_eq_zero h1
    subst this
    subst h2
    exact ⟨v, w, run_append_owned_none (P := Try.prog) (w := w) base 32 ty 50 i0 2 slice32 hi0 v _ _ ho, by simpa using ho, ⟨rfl, rfl, rfl, Nat.le_refl _, fun _ _ _ => rfl⟩, Or.inl rfl⟩
  | some ad =>
    have hnews : ∀ j u, (cellsV l)[j]? = some u → w.cell? (ad.add j) = some u := fun j u hj => by
      obtain ⟨b, o, e, hc⟩ := hr.cells j u hj
      cases e
      rw [add_at]
      exact hc
    obtain ⟨v', w', h1, h2, h3, _, h5⟩ := run_append_own_at (P := Try.prog) w base 32 ty 50 i0 _ 2 16 slice32 hi0 hzz0 hzz1 hzz2 rfl (by decide) v L.length (cellsV L) ho ad l.length cap (cellsV l) (by rw [cellsV_len]) hnews (cellsV_one l) (by unfold maxLen; omega) hl hbase
    refine ⟨v', w', h1, ?_, h3, h5⟩
    unfold OwnC
    rw [cellsV_app, List.length_append]
    exact h2
theorem wpList_append_cells {ops : Array Oper} {rest : List Oper} {op : Oper} {a : Act} {Q : Exit → Act → World → Prop} (hgd : op.guard = none) (s x : Operand) (hop : op.op = .call { callee := .builtin .append, args := #[s, x], argTypes := #[32, 32] })
    {w : World} {base : Nat} {v : Value} {L : List Cl} (ho : OwnC w base v L) {p : Option Addr} {l : List Cl} {cap : Nat} (hr : RowC w p l) (hz : p = none → l.length = 0 ∧ cap = 0) (hl : (L.length + l.length) * 16 ≤ 140737488355328) (hbase : base ≤ w.heap.size) (hs : a.eval s = v) (hx : a.eval x = .slice p l.length cap)
    (h : ∀ v' w', Hid (OwnC w' base v' (L ++ l)) → Hid (w.grownBy w' v.ownBlock) → Hid (v'.ownBlock = v.ownBlock ∨ v'.ownBlock = some w.heap.size) → wpList Try.prog ops Q rest (a.put op.dst v') w') : wpList Try.prog ops Q (op :: rest) a w := by
  refine wpList_plain hgd fun K hK => ?_
  obtain ⟨v', w', hrun, h2, h4, h5⟩ := run_append_cells ho hr hz hl hbase op.type
  unfold Oper.wp execOp
  simp only [hop, resolve, invoke, builtin, Sem.run_bind, Sem.run_pure, Result.andThen_ok, List.map_toArray, List.map_cons, List.map_nil, hs, hx, hrun]
  exact hK _ _ (h v' w' h2 h4 h5)
end Go.Proofs.Ytfeopoamednidaa
