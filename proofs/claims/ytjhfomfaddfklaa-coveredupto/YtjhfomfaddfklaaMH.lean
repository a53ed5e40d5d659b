/-
  What the texts of the layer matches import.
-/
import Derived.Test.YtjhfomfaddfklaaRows
import Derived.WalkKit
import Derived.WalkSpells
import Derived.WalkLawsBesides
import Derived.Deep.Slices
import Derived.Deep.Heap
import Derived.RegionTactic
import Derived.BigRegion
import Derived.BigFrame
import Derived.BigQuiet
import Derived.Deep.LoopGhost
import Derived.Deep.Cut
import Derived.Deep.CutBlock
import Derived.Deep.CutRange
import Derived.Deep.QuietTactic
import Derived.Deep.RegionWith
import Derived.Deep.RegionLaw
import Derived.Deep.AppendLies
import Derived.Maps.AppendAt
import Derived.Maps.OwnSet
import Derived.OwnWalk
namespace Go.Proofs.Ytjhfomfaddfklaa
open Go.RowKit Go.Deep
theorem Below.then {B : Nat} {a b c : World} (h : Below B a b) (k : Below b.heap.size b c) (hB : B ≤ a.heap.size) : Below B a c := h.trans (k.mono (Nat.le_trans hB h.size))
end Go.Proofs.Ytjhfomfaddfklaa
namespace Go.Proofs.Ytjhfomfaddfklaa
open Go.RowKit Go.Deep
/-- A pattern: its kind, number, of how many, place, text, kids. -/
inductive Pt where
  | mk (k n o a : Int) (s : ByteArray) (kids : List Pt)
instance : Inhabited Pt := ⟨.mk 0 0 0 0 { data := #[] } []⟩
def Pt.k : Pt → Int | .mk k _ _ _ _ _ => k
def Pt.n : Pt → Int | .mk _ n _ _ _ _ => n
def Pt.o : Pt → Int | .mk _ _ o _ _ _ => o
def Pt.s : Pt → ByteArray | .mk _ _ _ _ s _ => s
def Pt.kids : Pt → List Pt | .mk _ _ _ _ _ l => l
/-- The pattern that everything matches. -/
def Pt.any : Pt := .mk 0 0 0 0 { data := #[] } []
/-- A pattern's own six cells. -/
structure PC where
  k : Int
  n : Int
  o : Int
  a : Int
  s : ByteArray
  p : Option Addr
  len : Nat
  cap : Nat
instance : Inhabited PC := ⟨⟨0, 0, 0, 0, { data := #[] }, none, 0, 0⟩⟩
def PC.vals (c : PC) : List Value := [.int .i64 c.k, .int .i64 c.n, .int .i64 c.o, .int .i64 c.a, .string c.s, .slice c.p c.len c.cap]
def PC.val (c : PC) : Value := .agg #[.int .i64 c.k, .int .i64 c.n, .int .i64 c.o, .int .i64 c.a, .string c.s, .slice c.p c.len c.cap]
def PC.obj (c : PC) : Obj := .cells #[.int .i64 c.k, .int .i64 c.n, .int .i64 c.o, .int .i64 c.a, .string c.s, .slice c.p c.len c.cap] 26
def PC.any : PC := ⟨0, 0, 0, 0, { data := #[] }, none, 0, 0⟩
/-- The six cells lie there. -/
structure Cells6 (w : World) (b o : Nat) (c : PC) : Prop where
  c0 : w.cell? ⟨b, o, none⟩ = some (.int .i64 c.k)
  c1 : w.cell? ⟨b, o + 1, none⟩ = some (.int .i64 c.n)
  c2 : w.cell? ⟨b, o + 2, none⟩ = some (.int .i64 c.o)
  c3 : w.cell? ⟨b, o + 3, none⟩ = some (.int .i64 c.a)
  c4 : w.cell? ⟨b, o + 4, none⟩ = some (.string c.s)
  c5 : w.cell? ⟨b, o + 5, none⟩ = some (.slice c.p c.len c.cap)
theorem Cells6.lt {w : World} {b o : Nat} {c : PC} (h : Cells6 w b o c) : b < w.heap.size := World.block_lt_of_cell? _ _ h.c0
theorem Cells6.below {w w' : World} {b o : Nat} {c : PC} (h : Cells6 w b o c) (hb : Below w.heap.size w w') : Cells6 w' b o c :=
  have l := h.lt
  ⟨(hb.cell (p := ⟨b, o, none⟩) l).trans h.c0, (hb.cell (p := ⟨b, o + 1, none⟩) l).trans h.c1, (hb.cell (p := ⟨b, o + 2, none⟩) l).trans h.c2, (hb.cell (p := ⟨b, o + 3, none⟩) l).trans h.c3, (hb.cell (p := ⟨b, o + 4, none⟩) l).trans h.c4, (hb.cell (p := ⟨b, o + 5, none⟩) l).trans h.c5⟩
/-- The pattern lies in memory. -/
inductive PtIn (w : World) : PC → Pt → Prop
  | mk (c : PC) (kids : List Pt) (b o : Nat) (C : Nat → PC) (hl : c.len = kids.length) (hm : kids.length ≤ maxLen) (hcap : c.len ≤ c.cap) (hz : c.p = none → c.cap = 0) (hw : c.o ≤ 9223372036854775807) (hp : kids ≠ [] → c.p = some ⟨b, o, none⟩) (hc : ∀ i, i < kids.length → Cells6 w b (o + i * 6) (C i)) (hr : ∀ i (h : i < kids.length), PtIn w (C i) (kids[i]'h)) :
      PtIn w c (.mk c.k c.n c.o c.a c.s kids)
theorem PtIn.any (w : World) : PtIn w PC.any Pt.any := PtIn.mk PC.any [] 0 0 (fun _ => PC.any) rfl (Nat.zero_le _) (Nat.le_refl _) (fun _ => rfl) (by decide) (fun h => absurd rfl h) (fun _ hi => absurd hi (Nat.not_lt_zero _)) (fun _ hi => absurd hi (Nat.not_lt_zero _))
theorem PtIn.keep {w w' : World} {c : PC} {P : Pt} (h : PtIn w c P) (hb : Below w.heap.size w w') : PtIn w' c P := by
  induction h with
  | mk c kids b o C hl hm hcap hz hw hp hc hr ih => exact PtIn.mk c kids b o C hl hm hcap hz hw hp (fun i hi => (hc i hi).below hb) ih
theorem PtIn.parts {w : World} {c : PC} {P : Pt} (h : PtIn w c P) : P.k = c.k ∧ P.n = c.n ∧ P.o = c.o ∧ P.s = c.s ∧ P.kids.length = c.len ∧ c.len ≤ maxLen ∧ c.len ≤ c.cap := by
  cases h with
  | mk c kids b o C hl hm hcap hz hw hp hc hr => exact ⟨rfl, rfl, rfl, rfl, hl.symm, by rw [hl]; exact hm, hcap⟩
theorem PtIn.small {w : World} {c : PC} {P : Pt} (h : PtIn w c P) : c.o ≤ 9223372036854775807 := by
  cases h with
  | mk c kids b o C hl hm hcap hz hw hp hc hr => exact hw
theorem PtIn.none {w : World} {c : PC} {P : Pt} (h : PtIn w c P) (h0 : c.p = none) : c.len = 0 ∧ c.cap = 0 := by
  cases h with
  | mk c kids b o C hl hm hcap hz hw hp hc hr =>
    have := hz h0
    omega
/-- A row of patterns in a world; the kids of its patterns lie in an earlier one. -/
structure RowAt (wb w : World) (p : Option Addr) (l : List Pt) : Prop where
  len : l.length ≤ maxLen
  get : ∀ i (hi : i < l.length), ∃ b o c, p = some ⟨b, o, none⟩ ∧ Cells6 w b (o + i * 6) c ∧ PtIn wb c (l[i]'hi)
theorem RowAt.below {wb w w' : World} {p : Option Addr} {l : List Pt} (h : RowAt wb w p l) (hb : Below w.heap.size w w') : RowAt wb w' p l :=
  ⟨h.len, fun i hi => by
    obtain ⟨b, o, c, h1, h2, h3⟩ := h.get i hi
    exact ⟨b, o, c, h1, h2.below hb, h3⟩⟩
theorem RowAt.nil (wb w : World) (p : Option Addr) : RowAt wb w p [] := ⟨Nat.zero_le _, fun i hi => by cases hi⟩
/-- The kids of a pattern are a row. -/
theorem PtIn.row {wb w : World} {c : PC} {P : Pt} (h : PtIn wb c P) (hb : Below wb.heap.size wb w) : RowAt wb w c.p P.kids := by
  cases h with
  | mk c kids b o C hl hm hcap hz hw hp hc hr =>
    refine ⟨hm, fun i hi => ⟨b, o, C i, hp (fun e => ?_), (hc i hi).below hb, hr i hi⟩⟩
    simp only [Pt.kids] at hi
    rw [e] at hi
    cases hi
theorem RowAt.tail {wb w : World} {b o : Nat} {x : Pt} {l : List Pt} (h : RowAt wb w (some ⟨b, o, none⟩) (x :: l)) : RowAt wb w (some ⟨b, o + 6, none⟩) l :=
  ⟨by have := h.len; simp at this; omega, fun i hi => by
    obtain ⟨b', o', c, h1, h2, h3⟩ := h.get (i + 1) (by simp; omega)
    simp only [Option.some.injEq, Addr.mk.injEq, and_true] at h1
    obtain ⟨rfl, rfl⟩ := h1
    refine ⟨b, o + 6, c, rfl, ?_, by simpa using h3⟩
    rw [show o + 6 + i * 6 = o + (i + 1) * 6 by omega]
    exact h2⟩
/-- Rows of rows. -/
structure MatAt (wb w : World) (p : Option Addr) (m : List (List Pt)) : Prop where
  len : m.length ≤ maxLen
  get : ∀ i (hi : i < m.length), ∃ b o q cap, p = some ⟨b, o, none⟩ ∧ w.cell? ⟨b, o + i, none⟩ = some (.slice q (m[i]'hi).length cap) ∧ (m[i]'hi).length ≤ cap ∧ RowAt wb w q (m[i]'hi)
theorem MatAt.below {wb w w' : World} {p : Option Addr} {m : List (List Pt)} (h : MatAt wb w p m) (hb : Below w.heap.size w w') : MatAt wb w' p m :=
  ⟨h.len, fun i hi => by
    obtain ⟨b, o, q, cap, h1, h2, h3, h4⟩ := h.get i hi
    exact ⟨b, o, q, cap, h1, (hb.cell (p := ⟨b, o + i, none⟩) (World.block_lt_of_cell? _ _ h2)).trans h2, h3, h4.below hb⟩⟩
theorem MatAt.nil (wb w : World) (p : Option Addr) : MatAt wb w p [] := ⟨Nat.zero_le _, fun i hi => by cases hi⟩
/-- One pattern in cells of one's own. -/
def PBox (w : World) (b : Nat) (c : PC) : Prop := w.heap[b]? = some c.obj
theorem PBox.lt {w : World} {b : Nat} {c : PC} (h : PBox w b c) : b < w.heap.size := (Array.getElem?_eq_some_iff.1 h).1
theorem PBox.below {w w' : World} {b : Nat} {c : PC} (h : PBox w b c) (hb : Below w.heap.size w w') : PBox w' b c := (hb.block b h.lt).trans h
theorem PBox.cells {w : World} {b : Nat} {c : PC} (h : PBox w b c) : Cells6 w b 0 c := by
  unfold PBox PC.obj at h
  refine ⟨?_, ?_, ?_, ?_, ?_, ?_⟩ <;> simp [World.cell?, h]
theorem PBox.cells' {w : World} {b : Nat} {c : PC} (h : PBox w b c) : w.cell? ⟨b, 0, none⟩ = some (.int .i64 c.k) ∧ w.cell? ⟨b, 1, none⟩ = some (.int .i64 c.n) ∧ w.cell? ⟨b, 2, none⟩ = some (.int .i64 c.o) ∧ w.cell? ⟨b, 3, none⟩ = some (.int .i64 c.a) ∧ w.cell? ⟨b, 4, none⟩ = some (.string c.s) ∧ w.cell? ⟨b, 5, none⟩ = some (.slice c.p c.len c.cap) ∧ b < w.heap.size := by
  have hl := h.lt
  unfold PBox PC.obj at h
  refine ⟨?_, ?_, ?_, ?_, ?_, ?_, hl⟩ <;> simp [World.cell?, h]
theorem pbox_new (w : World) (c : PC) : PBox (w.alloc c.obj) w.heap.size c := (MapKept.heap_alloc w _).1
/-- A pattern without what it only names. -/
def bareP : Pt → Pt
  | .mk k n o a s [] => if k = 1 then Pt.any else .mk k n o a s []
  | .mk k n o a s (x :: r) => if k = 2 then bareP x else if k = 1 then Pt.any else .mk k n o a s (x :: r)
theorem bareP_as {k n o a : Int} {s : ByteArray} {x : Pt} {r : List Pt} (h : k = 2) : bareP (.mk k n o a s (x :: r)) = bareP x := by rw [bareP, if_pos h]
theorem bareP_var {k n o a : Int} {s : ByteArray} {l : List Pt} (h : k = 1) : bareP (.mk k n o a s l) = Pt.any := by
  cases l with
  | nil => rw [bareP, if_pos h]
  | cons x r => rw [bareP, if_neg (by omega), if_pos h]
theorem bareP_else {k n o a : Int} {s : ByteArray} {l : List Pt} (h : k ≠ 1) (h2 : k ≠ 2) : bareP (.mk k n o a s l) = .mk k n o a s l := by
  cases l with
  | nil => rw [bareP, if_neg h]
  | cons x r => rw [bareP, if_neg h2, if_neg h]
/-- May a part be: has it as many kids as its kind asks for? -/
def okP (k n o : Int) (m : Nat) : Bool :=
  if k = 0 ∨ k = 1 ∨ k = 3 ∨ k = 4 then decide (m = 0) else if k = 2 then decide (m = 1) else if k = 5 then decide (m ≠ 1) else if k = 6 then decide (m ≤ 1) && (decide (0 ≤ n) && decide (n < o)) else if k = 7 then decide (m ≤ 1) else false
mutual
/-- May a pattern be? -/
def Pt.good : Pt → Bool
  | .mk k n o _ _ kids => okP k n o kids.length && (decide (kids.length ≤ 1000) && Pt.goodL kids)
def Pt.goodL : List Pt → Bool
  | [] => true
  | x :: r => Pt.good x && Pt.goodL r
/-- How many parts ask for something. -/
def Pt.cons : Pt → Nat
  | .mk k _ _ _ _ kids => (if k = 0 ∨ k = 1 ∨ k = 2 then 0 else 1) + Pt.consL kids
def Pt.consL : List Pt → Nat
  | [] => 0
  | x :: r => Pt.cons x + Pt.consL r
end
theorem Pt.goodL_mem {l : List Pt} : Pt.goodL l = true ↔ ∀ x ∈ l, x.good = true := by
  induction l with
  | nil => simp [Pt.goodL]
  | cons x r ih => simp [Pt.goodL, ih]
theorem Pt.consL_app (l r : List Pt) : Pt.consL (l ++ r) = Pt.consL l + Pt.consL r := by
  induction l with
  | nil => simp [Pt.consL]
  | cons x l ih => simp [Pt.consL, ih]; omega
end Go.Proofs.Ytjhfomfaddfklaa
