/-
  The program's layer matches: what it makes of patterns lies in blocks of its own.
-/
import Derived.Test.YtjhfomfaddfklaaRegR
namespace Go.Proofs.Ytjhfomfaddfklaa
open Go.RowKit Go.Deep Go.Shelf
/-- The part lies in blocks of cells from B on, off one block. -/
def PFresh (B : Nat) (o : Option Nat) (w : World) (v : Option Addr) (P : Pt) : Prop := ∀ w', (∀ k x, B ≤ k → o ≠ some k → w.heap[k]? = some x → x.isCells = true → w'.heap[k]? = some x) → PrtIn w' v P
theorem PFresh.in_ {B : Nat} {o : Option Nat} {w : World} {v : Option Addr} {P : Pt} (h : PFresh B o w v P) : PrtIn w v P := h w (fun _ _ _ _ hk _ => hk)
theorem PFresh.step {B : Nat} {o o' : Option Nat} {w w' : World} {v : Option Addr} {P : Pt} (h : PFresh B o w v P) (hk : ∀ k x, B ≤ k → o ≠ some k → w.heap[k]? = some x → x.isCells = true → w'.heap[k]? = some x ∧ o' ≠ some k) : PFresh B o' w' v P := fun w'' h'' => h w'' (fun k x h0 h1 h2 h3 => h'' k x h0 (hk k x h0 h1 h2 h3).2 (hk k x h0 h1 h2 h3).1 h3)
theorem PFresh.off {B B' : Nat} {w : World} {v : Option Addr} {P : Pt} (h : PFresh B none w v P) {o : Option Nat} (ho : ∀ k, o = some k → k < B) (hB : B' ≤ B) : PFresh B' o w v P := fun w' h' => h w' (fun k x h1 _ h2 h3 => h' k x (by omega) (fun e => by have := ho k e; omega) h2 h3)
/-- The line lies in blocks of cells from B on. -/
def LFresh (B : Nat) (w : World) (p : Option Addr) (l : List Pt) : Prop := ∀ w', (∀ k x, B ≤ k → w.heap[k]? = some x → x.isCells = true → w'.heap[k]? = some x) → LineAt w' w' p l
theorem LFresh.in_ {B : Nat} {w : World} {p : Option Addr} {l : List Pt} (h : LFresh B w p l) : LineAt w w p l := h w (fun _ _ _ hk _ => hk)
theorem LFresh.below {B : Nat} {w w' : World} {p : Option Addr} {l : List Pt} (h : LFresh B w p l) (hb : Below w.heap.size w w') : LFresh B w' p l := fun w'' h'' => h w'' (fun k x h0 h1 h2 => h'' k x h0 ((hb.block k (Array.getElem?_eq_some_iff.1 h1).1).trans h1) h2)
theorem LFresh.mono {B B' : Nat} {w : World} {p : Option Addr} {l : List Pt} (h : LFresh B w p l) (hB : B' ≤ B) : LFresh B' w p l := fun w'' h'' => h w'' (fun k x h0 h1 h2 => h'' k x (by omega) h1 h2)
/-- A part is made of its six cells and its line. -/
theorem PrtIn.make {w : World} {P : Pt} {b : Nat} {p : Option Addr} {cap : Nat} (hk : (bareP P).k ≠ 0) (hc : Part6 w b (bareP P) p cap) (hcap : (bareP P).kids.length ≤ cap) (hz : p = none → cap = 0) (hl : LineAt w w p (bareP P).kids.reverse) : PrtIn w (some ⟨b, 0, none⟩) P := by
  have key : ∀ i, i < (bareP P).kids.reverse.length → ∃ v : Option Addr, (∃ b' o', p = some ⟨b', o', none⟩ ∧ w.cell? ⟨b', o' + i, none⟩ = some (.pointer v)) ∧ ∀ hi : i < (bareP P).kids.reverse.length, PrtIn w v ((bareP P).kids.reverse[i]'hi) := fun i hi => by
    obtain ⟨b', o', v, h1, h2, h3⟩ := hl.get i hi
    exact ⟨v, ⟨b', o', h1, h2⟩, fun _ => h3⟩
  obtain ⟨C, hC⟩ := choose_lt (α := Option Addr) key
  exact PrtIn.mk P b p cap _ C hk rfl hc hl.len (by simpa using hcap) hz (fun i hi => (hC i hi).1) (fun i hi => (hC i hi).2 hi)
inductive PartPost (P : Pt) (w : World) (e : Ending) (w' : World) : Prop
  | mk (v : Option Addr) (he : e = .returned (.pointer v)) (hf : PFresh w.heap.size none w' v P) (hb : Below w.heap.size w w') : PartPost P w e w'
inductive PartsPost (l : List Pt) (w : World) (e : Ending) (w' : World) : Prop
  | mk (q : Option Addr) (cap : Nat) (he : e = .returned (.slice q l.length cap)) (hc : l.length ≤ cap) (hn : q = none → cap = 0) (hf : LFresh w.heap.size w' q l.reverse) (hb : Below w.heap.size w w') (hq : ∀ b, q = some b → w.heap.size ≤ b.block ∧ b.block < w'.heap.size) : PartsPost l w e w'
def PartOk (wb : World) (P : Pt) : Prop := ∀ c, PtIn wb c P → ∀ w, Below wb.heap.size wb w → Calls Try.prog 40 #[c.val] w fun e w' => PartPost P w e w'
/-- The row of a line in the making. -/
structure OwnK (B : Nat) (W : World) (v : Value) (L : List (Option Addr × Pt)) : Prop where
  row : W.ownsRow B 55 1 v L.length (L.map fun x => Value.pointer x.1)
  els : ∀ x ∈ L, PFresh (B + 1) v.ownBlock W x.1 x.2
theorem infos55 : (Try.prog.info? 55).map (fun i => (i.zero, i.size, i.bytes)) = some (some (.pointer none), 1, 8) := by kernel_rfl
theorem slice41 : Try.prog.underlying 41 = some (.slice 55) := by kernel_rfl
theorem slice40 : Try.prog.underlying 40 = some (.slice 55) := by kernel_rfl
end Go.Proofs.Ytjhfomfaddfklaa
