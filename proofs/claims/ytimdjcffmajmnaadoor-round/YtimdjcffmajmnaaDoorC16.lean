/-
  The document's reader of codes: a text more, an instruction more, a function more.
-/
import Derived.Test.YtimdjcffmajmnaaDoorC15
namespace Go.Proofs.YtimdjcffmajmnaaDoor
open Go.RowKit Go.Deep
theorem kp_grown {w w1 : World} {v : Value} (hg : w.grownBy w1 v.ownBlock) : Kp v.ownBlock.toList w w1 := Kp.of_grown hg (fun k hk => by rw [hk]; simp)
theorem Dw.addText {w0 w w1 : World} {S : ByteArray} {ts : List ByteArray} {vt : Value} {r : Rs} (h : Dw w0 w S ts [] vt (.slice none 0 0) r) {g cap : Nat} {t : ByteArray} (ho : w1.ownsRow (w0.heap.size + 4) 9 1 (.slice (some ⟨g, 0, none⟩) (ts.length + 1) cap) (ts.length + 1) (ts.map Value.string ++ [.string t])) (hg : w.grownBy w1 vt.ownBlock) :
    Dw w0 (w1.setCell ⟨w0.heap.size + 2, 0, none⟩ (.slice (some ⟨g, 0, none⟩) (ts.length + 1) cap)) S (ts ++ [t]) [] (.slice (some ⟨g, 0, none⟩) (ts.length + 1) cap) (.slice none 0 0) r := by
  have k := kp_grown hg
  have hX : ∀ x ∈ vt.ownBlock.toList, w0.heap.size + 4 ≤ x := fun x hx => (h.rows.lt x (by simpa using hx)).1
  have hs := h.size
  have low : ∀ b, b < w0.heap.size + 4 → b ∉ vt.ownBlock.toList := fun b hb hx => by have := hX b hx; omega
  have ks : Kp [w0.heap.size + 2] w1 (w1.setCell ⟨w0.heap.size + 2, 0, none⟩ (.slice (some ⟨g, 0, none⟩) (ts.length + 1) cap)) := Kp.setCell w1 ⟨w0.heap.size + 2, 0, none⟩ (by simp) _
  have hs1 := k.size
  have hc1 := (k.block (w0.heap.size + 2) (by omega) (low _ (by omega))).trans h.code
  have hbg := (ho.lt g rfl).1
  refine ⟨(ks.block _ (by omega) (by simp)).trans ((k.block _ (by omega) (low _ (by omega))).trans h.two), (ks.block _ (by omega) (by simp)).trans ((k.block _ (by omega) (low _ (by omega))).trans h.three), ?_, RBox.kp (RBox.kp h.rd k (low _ (by omega))) ks (by simp), ?_, World.ownsRow_nil _ _ _ _, fun _ _ h => by simp [Value.ownBlock] at h, (fun x hx => by cases hx), ?_, h.pos⟩
  · simp [World.setCell, Array.getElem?_modify, hc1]
  · have := ownsRow.kp ho ks (fun g' hg' => by simp only [Value.ownBlock, Option.some.injEq] at hg'; simp; omega)
    simpa using this
  · exact (h.keep.trans (k.below h.keep.size (fun x hx => by have := hX x hx; omega))).trans (ks.below (by omega) (by simp))
/-- The function that is being read. -/
structure Fw (w0 w : World) (fs : List FnAt) (vt vf : Value) (bp : Nat) (free slots : Int) (vi : Value) (l : List In) : Prop where
  box : w.heap[bp]? = some (.cells #[.int .i64 free, .int .i64 slots, vi] 50)
  row : w.ownsRow (w0.heap.size + 4) 47 3 vi l.length (inRow l)
  ap : Apart w0.heap.size vt vf fs bp
  av : ∀ g, vi.ownBlock = some g → Apart w0.heap.size vt vf fs g ∧ g ≠ bp
theorem Fw.lt {w0 w : World} {fs : List FnAt} {vt vf : Value} {bp : Nat} {free slots : Int} {vi : Value} {l : List In} (h : Fw w0 w fs vt vf bp free slots vi l) : bp < w.heap.size := (Array.getElem?_eq_some_iff.1 h.box).1
theorem Fw.kp {X : List Nat} {w0 w w' : World} {fs : List FnAt} {vt vf : Value} {bp : Nat} {free slots : Int} {vi : Value} {l : List In} (h : Fw w0 w fs vt vf bp free slots vi l) (k : Kp X w w') (h1 : bp ∉ X) (h2 : ∀ g, vi.ownBlock = some g → g ∉ X) : Fw w0 w' fs vt vf bp free slots vi l :=
  ⟨(k.block bp h.lt h1).trans h.box, ownsRow.kp h.row k h2, h.ap, h.av⟩
theorem Fw.read {w0 w w' : World} {fs : List FnAt} {vt vf : Value} {bp : Nat} {free slots : Int} {vi : Value} {l : List In} (h : Fw w0 w fs vt vf bp free slots vi l) (k : Kp [w0.heap.size + 3] w w') : Fw w0 w' fs vt vf bp free slots vi l :=
  h.kp k (by have := h.ap.le; simp; omega) (fun g hg => by have := (h.av g hg).1.le; simp; omega)
theorem Fw.cells {w0 w : World} {fs : List FnAt} {vt vf : Value} {bp : Nat} {free slots : Int} {vi : Value} {l : List In} (h : Fw w0 w fs vt vf bp free slots vi l) : w.cell? ⟨bp, 0, none⟩ = some (.int .i64 free) ∧ w.cell? ⟨bp, 1, none⟩ = some (.int .i64 slots) ∧ w.cell? ⟨bp, 2, none⟩ = some vi ∧ (∀ j, w.frozen? ⟨bp, j, none⟩ = false) ∧ bp < w.heap.size := by
  have := h.box
  refine ⟨?_, ?_, ?_, fun j => ?_, h.lt⟩ <;> simp [World.cell?, World.frozen?, this]
/-- An instruction more. -/
theorem Fw.addIn {w0 w w1 : World} {S : ByteArray} {ts : List ByteArray} {r : Rs} {fs : List FnAt} {vt vf : Value} {bp : Nat} {free slots : Int} {vi : Value} {l : List In} {x : In} (hd : Dw w0 w S ts fs vt vf r) (h : Fw w0 w fs vt vf bp free slots vi l) {g cap : Nat} (ho : w1.ownsRow (w0.heap.size + 4) 47 3 (.slice (some ⟨g, 0, none⟩) (l.length + 1) cap) (l.length + 1) (inRow l ++ [.int .i64 x.op, .int .i64 x.a, .int .i64 x.b])) (hg : w.grownBy w1 vi.ownBlock) (hat : vi.ownBlock = some g ∨ g = w.heap.size) :
    Fw w0 (w1.setCell ⟨bp, 2, none⟩ (.slice (some ⟨g, 0, none⟩) (l.length + 1) cap)) fs vt vf bp free slots (.slice (some ⟨g, 0, none⟩) (l.length + 1) cap) (l ++ [x]) ∧ Dw w0 (w1.setCell ⟨bp, 2, none⟩ (.slice (some ⟨g, 0, none⟩) (l.length + 1) cap)) S ts fs vt vf r := by
  have k := kp_grown hg
  have hX : ∀ y ∈ vi.ownBlock.toList, Apart w0.heap.size vt vf fs y ∧ y ≠ bp := fun y hy => h.av y (by simpa using hy)
  have ks : Kp [bp] w1 (w1.setCell ⟨bp, 2, none⟩ (.slice (some ⟨g, 0, none⟩) (l.length + 1) cap)) := Kp.setCell w1 ⟨bp, 2, none⟩ (by simp) _
  have hlt := h.lt
  have hag : Apart w0.heap.size vt vf fs g ∧ g ≠ bp := by
    rcases hat with e | e
    · exact h.av g e
    · exact ⟨hd.new g (by omega), by omega⟩
  have hb1 := (k.block bp hlt (fun hx => (hX bp hx).2 rfl)).trans h.box
  refine ⟨⟨?_, ?_, h.ap, ?_⟩, (hd.kp k (fun y hy => (hX y hy).1)).kp ks (fun y hy => by simp at hy; subst hy; exact h.ap)⟩
  · simp [World.setCell, Array.getElem?_modify, hb1]
  · have := ownsRow.kp ho ks (fun g' hg' => by simp only [Value.ownBlock, Option.some.injEq] at hg'; have := hag.2; simp; omega)
    simpa [inRow_snoc] using this
  · intro g' hg'
    simp only [Value.ownBlock, Option.some.injEq] at hg'
    subst hg'
    exact hag
/-- A function more. -/
theorem Dw.addFun {w0 w w1 : World} {S : ByteArray} {ts : List ByteArray} {r : Rs} {fs : List FnAt} {vt vf : Value} {x : FnAt} (h : Dw w0 w S ts fs vt vf r) (hI : InsIn w x.q x.f.ins) (hq : ∀ b, x.q = some b → Apart w0.heap.size vt vf fs b.block ∧ b.block < w.heap.size) {g cap : Nat} (ho : w1.ownsRow (w0.heap.size + 4) 50 3 (.slice (some ⟨g, 0, none⟩) (fs.length + 1) cap) (fs.length + 1) (fnRow fs ++ [.int .i64 x.f.free, .int .i64 x.f.slots, .slice x.q x.f.ins.length x.cap])) (hg : w.grownBy w1 vf.ownBlock) (hat : vf.ownBlock = some g ∨ g = w.heap.size) :
    Dw w0 (w1.setCell ⟨w0.heap.size + 2, 1, none⟩ (.slice (some ⟨g, 0, none⟩) (fs.length + 1) cap)) S ts (fs ++ [x]) vt (.slice (some ⟨g, 0, none⟩) (fs.length + 1) cap) r := by
  have k := kp_grown hg
  have hX : ∀ x ∈ vf.ownBlock.toList, w0.heap.size + 4 ≤ x := fun x hx => (h.rowf.lt x (by simpa using hx)).1
  have hs := h.size
  have low : ∀ b, b < w0.heap.size + 4 → b ∉ vf.ownBlock.toList := fun b hb hx => by have := hX b hx; omega
  have ks : Kp [w0.heap.size + 2] w1 (w1.setCell ⟨w0.heap.size + 2, 1, none⟩ (.slice (some ⟨g, 0, none⟩) (fs.length + 1) cap)) := Kp.setCell w1 ⟨w0.heap.size + 2, 1, none⟩ (by simp) _
  have hs1 := k.size
  have hc1 := (k.block (w0.heap.size + 2) (by omega) (low _ (by omega))).trans h.code
  have hbg := (ho.lt g rfl).1
  have hall : ∀ y ∈ fs ++ [x], InsIn w y.q y.f.ins ∧ ∀ b, y.q = some b → w0.heap.size + 4 ≤ b.block ∧ b.block < w.heap.size ∧ vt.ownBlock ≠ some b.block ∧ vf.ownBlock ≠ some b.block := fun y hy => by
    rcases List.mem_append.1 hy with hy | hy
    · exact h.ins y hy
    · obtain rfl : y = x := by simpa using hy
      exact ⟨hI, fun b hb => ⟨(hq b hb).1.le, (hq b hb).2, (hq b hb).1.t, (hq b hb).1.f⟩⟩
  refine ⟨(ks.block _ (by omega) (by simp)).trans ((k.block _ (by omega) (low _ (by omega))).trans h.two), (ks.block _ (by omega) (by simp)).trans ((k.block _ (by omega) (low _ (by omega))).trans h.three), ?_, RBox.kp (RBox.kp h.rd k (low _ (by omega))) ks (by simp), ?_, ?_, ?_, fun y hy => ⟨?_, ?_⟩, ?_, h.pos⟩
  · simp [World.setCell, Array.getElem?_modify, hc1]
  · refine ownsRow.kp (ownsRow.kp h.rows k (fun g' hg' hx => h.apart g' hg' (by simpa using hx))) ks (fun g' hg' => ?_)
    have := (h.rows.lt g' hg').1
    simp
    omega
  · have := ownsRow.kp ho ks (fun g' hg' => by simp only [Value.ownBlock, Option.some.injEq] at hg'; simp; omega)
    simpa [fnRow_snoc] using this
  · intro g' hg' he
    simp only [Value.ownBlock, Option.some.injEq] at he
    subst he
    rcases hat with e | e
    · exact h.apart g hg' e
    · have := (h.rows.lt g hg').2
      omega
  · refine ((hall y hy).1.kp k (fun b hb hx => ((hall y hy).2 b hb).2.2.2 (by simpa using hx))).kp ks (fun b hb => ?_)
    have := ((hall y hy).2 b hb).1
    simp
    omega
  · intro b hb
    obtain ⟨h1, h2, h3, h4⟩ := (hall y hy).2 b hb
    refine ⟨h1, Nat.lt_of_lt_of_le h2 (Nat.le_trans hs1 ks.size), h3, fun he => ?_⟩
    simp only [Value.ownBlock, Option.some.injEq] at he
    rcases hat with e | e
    · exact h4 (by rw [e, he])
    · omega
  · exact (h.keep.trans (k.below h.keep.size (fun x hx => by have := hX x hx; omega))).trans (ks.below (by omega) (by simp))
end Go.Proofs.YtimdjcffmajmnaaDoor
