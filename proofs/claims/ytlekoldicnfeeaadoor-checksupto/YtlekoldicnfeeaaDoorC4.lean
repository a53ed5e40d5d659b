/-
  A code in plain words, and as it lies in memory: texts, functions, instructions.
-/
import Derived.Test.YtlekoldicnfeeaaDoorC3
namespace Go.Proofs.YtlekoldicnfeeaaDoor
open Go.RowKit Go.Deep
/-- A function of a code. -/
structure Fn where
  free : Int
  slots : Int
  ins : List In
instance : Inhabited Fn := ⟨⟨0, 0, []⟩⟩
/-- A code. -/
structure Cd where
  texts : List ByteArray
  funs : List Fn
def textB (t : ByteArray) : List UInt8 := big t.size 1 ++ t.data.toList
def textOk (t : ByteArray) : Bool := decide ((t.size : Int) ≤ 200)
def Fn.bytes (f : Fn) : List UInt8 := big f.free 2 ++ (big f.slots 2 ++ (big f.ins.length 2 ++ f.ins.flatMap In.bytes))
def Fn.ok (f : Fn) : Bool := isTwo f.free && (isTwo f.slots && (isTwo f.ins.length && f.ins.all In.ok))
def Cd.bytes (c : Cd) : List UInt8 := [77, 76, 49] ++ (big c.texts.length 2 ++ (c.texts.flatMap textB ++ (big c.funs.length 2 ++ c.funs.flatMap Fn.bytes)))
def Cd.ok (c : Cd) : Bool := isTwo c.texts.length && (c.texts.all textOk && (isTwo c.funs.length && c.funs.all Fn.ok))
/-- Its bytes, and whether it has any. -/
def Cd.enc (c : Cd) : List UInt8 × Int := if c.ok = true then (if c.bytes.length > 4000000 then ([], 1) else (c.bytes, 0)) else ([], 17)
/-- A row of texts. -/
structure TextsIn (w : World) (p : Option Addr) (ts : List ByteArray) : Prop where
  len : ts.length ≤ 2 ^ 63 - 1
  get : ∀ i (hi : i < ts.length), ∃ b o, p = some ⟨b, o, none⟩ ∧ b < w.heap.size ∧ w.cell? ⟨b, o + i, none⟩ = some (.string (ts[i]'hi))
/-- A row of instructions. -/
structure InsIn (w : World) (p : Option Addr) (l : List In) : Prop where
  len : l.length ≤ 2 ^ 63 - 1
  get : ∀ i (hi : i < l.length), ∃ b o, p = some ⟨b, o, none⟩ ∧ b < w.heap.size ∧ w.cell? ⟨b, o + i * 3, none⟩ = some (.int .i64 (l[i]'hi).op) ∧ w.cell? ⟨b, o + i * 3 + 1, none⟩ = some (.int .i64 (l[i]'hi).a) ∧ w.cell? ⟨b, o + i * 3 + 2, none⟩ = some (.int .i64 (l[i]'hi).b)
/-- The cells of a function. -/
structure FnCells (w : World) (b o : Nat) (f : Fn) (q : Option Addr) (cap : Nat) : Prop where
  c0 : w.cell? ⟨b, o, none⟩ = some (.int .i64 f.free)
  c1 : w.cell? ⟨b, o + 1, none⟩ = some (.int .i64 f.slots)
  c2 : w.cell? ⟨b, o + 2, none⟩ = some (.slice q f.ins.length cap)
/-- A row of functions. -/
structure FunsIn (w : World) (p : Option Addr) (fs : List Fn) : Prop where
  len : fs.length ≤ 2 ^ 63 - 1
  get : ∀ i (hi : i < fs.length), ∃ b o q cap, p = some ⟨b, o, none⟩ ∧ b < w.heap.size ∧ FnCells w b (o + i * 3) (fs[i]'hi) q cap ∧ InsIn w q (fs[i]'hi).ins
theorem TextsIn.below {w w' : World} {p : Option Addr} {ts : List ByteArray} (h : TextsIn w p ts) (hb : Below w.heap.size w w') : TextsIn w' p ts :=
  ⟨h.len, fun i hi => by
    obtain ⟨b, o, h1, h2, h3⟩ := h.get i hi
    exact ⟨b, o, h1, Nat.lt_of_lt_of_le h2 hb.size, (hb.cell (p := ⟨b, o + i, none⟩) h2).trans h3⟩⟩
theorem InsIn.below {w w' : World} {p : Option Addr} {l : List In} (h : InsIn w p l) (hb : Below w.heap.size w w') : InsIn w' p l :=
  ⟨h.len, fun i hi => by
    obtain ⟨b, o, h1, h2, h3, h4, h5⟩ := h.get i hi
    exact ⟨b, o, h1, Nat.lt_of_lt_of_le h2 hb.size, (hb.cell (p := ⟨b, o + i * 3, none⟩) h2).trans h3, (hb.cell (p := ⟨b, o + i * 3 + 1, none⟩) h2).trans h4, (hb.cell (p := ⟨b, o + i * 3 + 2, none⟩) h2).trans h5⟩⟩
theorem FnCells.below {w w' : World} {b o : Nat} {f : Fn} {q : Option Addr} {cap : Nat} (h : FnCells w b o f q cap) (h2 : b < w.heap.size) (hb : Below w.heap.size w w') : FnCells w' b o f q cap :=
  ⟨(hb.cell (p := ⟨b, o, none⟩) h2).trans h.c0, (hb.cell (p := ⟨b, o + 1, none⟩) h2).trans h.c1, (hb.cell (p := ⟨b, o + 2, none⟩) h2).trans h.c2⟩
theorem FunsIn.below {w w' : World} {p : Option Addr} {fs : List Fn} (h : FunsIn w p fs) (hb : Below w.heap.size w w') : FunsIn w' p fs :=
  ⟨h.len, fun i hi => by
    obtain ⟨b, o, q, cap, h1, h2, h3, h4⟩ := h.get i hi
    exact ⟨b, o, q, cap, h1, Nat.lt_of_lt_of_le h2 hb.size, h3.below h2 hb, h4.below hb⟩⟩
/-- The two cells of a code. -/
def CBox (w : World) (b : Nat) (p : Option Addr) (n cap : Nat) (p' : Option Addr) (n' cap' : Nat) : Prop := w.heap[b]? = some (.cells #[.slice p n cap, .slice p' n' cap'] 25)
theorem CBox.below {w w' : World} {b : Nat} {p : Option Addr} {n cap : Nat} {p' : Option Addr} {n' cap' : Nat} (h : CBox w b p n cap p' n' cap') (hb : Below w.heap.size w w') : CBox w' b p n cap p' n' cap' := (hb.block b (Array.getElem?_eq_some_iff.1 h).1).trans h
theorem CBox.cells {w : World} {b : Nat} {p : Option Addr} {n cap : Nat} {p' : Option Addr} {n' cap' : Nat} (h : CBox w b p n cap p' n' cap') : w.cell? ⟨b, 0, none⟩ = some (.slice p n cap) ∧ w.cell? ⟨b, 1, none⟩ = some (.slice p' n' cap') ∧ b < w.heap.size := by
  have h2 := (Array.getElem?_eq_some_iff.1 h).1
  unfold CBox at h
  refine ⟨?_, ?_, h2⟩ <;> simp [World.cell?, h]
/-- The three cells of a function of one's own. -/
def FBox (w : World) (b : Nat) (f : Fn) (q : Option Addr) (cap : Nat) : Prop := w.heap[b]? = some (.cells #[.int .i64 f.free, .int .i64 f.slots, .slice q f.ins.length cap] 50)
theorem FBox.below {w w' : World} {b : Nat} {f : Fn} {q : Option Addr} {cap : Nat} (h : FBox w b f q cap) (hb : Below w.heap.size w w') : FBox w' b f q cap := (hb.block b (Array.getElem?_eq_some_iff.1 h).1).trans h
theorem FBox.cells {w : World} {b : Nat} {f : Fn} {q : Option Addr} {cap : Nat} (h : FBox w b f q cap) : w.cell? ⟨b, 0, none⟩ = some (.int .i64 f.free) ∧ w.cell? ⟨b, 1, none⟩ = some (.int .i64 f.slots) ∧ w.cell? ⟨b, 2, none⟩ = some (.slice q f.ins.length cap) ∧ b < w.heap.size := by
  have h2 := (Array.getElem?_eq_some_iff.1 h).1
  unfold FBox at h
  refine ⟨?_, ?_, ?_, h2⟩ <;> simp [World.cell?, h]
end Go.Proofs.YtlekoldicnfeeaaDoor
