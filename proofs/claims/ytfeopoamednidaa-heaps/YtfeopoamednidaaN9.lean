/-
  Both sides together: the beginning; a field that is read.
-/
import Derived.Test.YtfeopoamednidaaN8
namespace Go.Proofs.Ytfeopoamednidaa
open Go.RowKit Go.Deep Go.IntWalk
/-- At the beginning both heaps are empty. -/
theorem Jt.start {B : Nat} {w : World} {wb hp hd base : Nat} {cells : Int} (hc : 0 ≤ cells ∧ cells ≤ 1000000) (h1 : w.heap[wb]? = some (.cells #[.pointer (some ⟨hp, 0, none⟩), .pointer (some ⟨hd, 0, none⟩), .slice none 0 0, .slice none 0 0] 34)) (h2 : w.heap[hp]? = some (.cells #[.int .i64 cells, .int .i64 1, .slice none 0 0] 43)) (h3 : w.heap[hd]? = some (.cells #[.int .i64 cells, .map none, .int .i64 0] 31)) (hb : B ≤ wb ∧ B ≤ hp ∧ B ≤ hd) (hw : wb < base) (hs : base ≤ w.heap.size) :
    Jt B w wb hp hd base cells 0 1 (.slice none 0 0) [] (.slice none 0 0) [] (.slice none 0 0) [] 0 (fun _ => none) none (fun _ => none) [] (fun _ _ => False) :=
  ⟨⟨h1, World.ownsRow_nil w base 50 2, World.ownsRow_nil w base 50 2, (fun k e => by cases e), hw, hs⟩, ⟨h2, World.ownsRow_nil w 0 79 5, by simp [encL], by omega⟩, ⟨h3, Or.inl ⟨rfl, rfl⟩, by simp, fun b => by simp, (fun b t e => by cases e)⟩, ⟨⟨(fun _ _ _ h _ => h.elim), (fun _ _ _ h _ => h.elim)⟩, ⟨rfl, (fun i hi => by cases hi)⟩, (fun _ _ h => h.elim)⟩, (fun t ht => by cases ht), (fun c hc => by cases hc), (fun c hc => by cases hc), (fun t ht => by cases ht), (fun b t a e => by cases e), (fun b b' t t' a a' e => by cases e), by omega, (fun y hy => by cases hy), by simp [cellsT], by omega, by simp, hc, by omega, ⟨hb.1, hb.2.1, hb.2.2, by omega, (fun k e => by cases e), (fun k e => by cases e), (fun b t a e => by cases e)⟩⟩
section
variable {B : Nat} {w : World} {wb hp hd base : Nat} {cells : Int} {S : Nat} {first : Int} {v : Value} {ts : List Th} {vp : Value} {ps : List Cl} {vq : Value} {qs : List Cl} {next : Int} {D : Doc} {mp : Option Nat} {q : Int → Option Addr} {ks : List Int} {R : Int → Int → Prop}
/-- A root of the program's that is a thing: the document's goes with it. -/
theorem Jt.root (h : Jt B w wb hp hd base cells S first v ts vp ps vq qs next D mp q ks R) {j : Nat} (hj : j < ps.length) (hk : j < qs.length) (hp : (ps[j]'hj).p = true) : (qs[j]'hk).p = true ∧ R (ps[j]'hj).n (qs[j]'hk).n ∧ ∃ t u, docOf first ts (ps[j]'hj).n = some t ∧ D (qs[j]'hk).n = some u ∧ ThIso R t u := by
  obtain ⟨h1, _, h3⟩ := h.iso.roots.at_ j hj hk
  have hR := h3 hp
  exact ⟨by rw [← h1]; exact hp, hR, h.iso.things _ _ hR⟩
/-- A field that is read becomes a root, on both sides. -/
theorem Jt.isoGet (h : Jt B w wb hp hd base cells S first v ts vp ps vq qs next D mp q ks R) {t u : Th} (hT : ThIso R t u) {i : Nat} (hi : i < t.fs.length) (hk : i < u.fs.length) : Iso (docOf first ts) D R (ps ++ [t.fs[i]'hi]) (qs ++ [u.fs[i]'hk]) := h.iso.more (hT.fs.at_ i hi hk)
end
end Go.Proofs.Ytfeopoamednidaa
