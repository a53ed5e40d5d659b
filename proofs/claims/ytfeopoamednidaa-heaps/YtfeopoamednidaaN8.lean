/-
  Both sides together: other roots, in rows of their own.
-/
import Derived.Test.YtfeopoamednidaaN6
namespace Go.Proofs.Ytfeopoamednidaa
open Go.RowKit Go.Deep Go.IntWalk
section
variable {B : Nat} {w : World} {wb hp hd base : Nat} {cells : Int} {S : Nat} {first : Int} {v : Value} {ts : List Th} {vp : Value} {ps : List Cl} {vq : Value} {qs : List Cl} {next : Int} {D : Doc} {mp : Option Nat} {q : Int → Option Addr} {ks : List Int} {R : Int → Int → Prop}
/-- The roots are others now; their rows are new. -/
theorem Jt.reroot (h : Jt B w wb hp hd base cells S first v ts vp ps vq qs next D mp q ks R) {w1 : World} {vp1 vq1 : Value} {ps1 qs1 : List Cl} (hms : MS w1 wb (.pointer (some ⟨hp, 0, none⟩)) hd base vp1 ps1 vq1 qs1) (hk : Kp [wb] w w1) (h1 : ∀ k, vp1.ownBlock = some k → w.heap.size ≤ k) (h2 : ∀ k, vq1.ownBlock = some k → w.heap.size ≤ k) (hI : Iso (docOf first ts) D R ps1 qs1) (hp1 : ∀ c ∈ ps1, c ∈ ps) (hq1 : ∀ c ∈ qs1, c ∈ qs) (hl : ps1.length ≤ S) :
    Jt B w1 wb hp hd base cells S first v ts vp1 ps1 vq1 qs1 next D mp q ks R ∧ Below B w w1 := by
  have hlt := h.lt
  have hmo : ∀ k, mp = some k → k ∉ [wb] := fun k e hx => by
    simp at hx
    subst hx
    rcases h.dc.map with ⟨e2, _⟩ | ⟨mb, e2, hm⟩
    · rw [e2] at e
      cases e
    · rw [e2] at e
      cases e
      obtain ⟨Dm, ⟨es, clock, k1, _⟩, _⟩ := hm
      rw [h.ms.box] at k1
      cases k1
  have hqo : ∀ b t a, D b = some t → q b = some a → a.block ∉ [wb] := fun b t a hb hq hx => by
    obtain ⟨_, _, _, cur, k4⟩ := h.qr b t a hb hq
    simp at hx
    rw [hx, h.ms.box] at k4
    simp at k4
  have hhp : hp ∉ [wb] := fun hx => by
    simp at hx
    have := h.hh.box
    rw [hx, h.ms.box] at this
    simp at this
  have hhd : hd ∉ [wb] := fun hx => by
    simp at hx
    have := h.dc.box
    rw [hx, h.ms.box] at this
    simp at this
  refine ⟨⟨hms, h.hh.kp hk hhp (fun k hk2 hx => ?_), h.dc.kp hk hhd hmo hqo, hI, h.cl, fun c hc => h.wfp c (hp1 c hc), fun c hc => h.wfq c (hq1 c hc), h.oth, fun b t a hb hq => ?_, h.qi, h.nx, h.kl, h.cs, h.fs, hl, h.ok, h.sl, h.lb⟩, hk.below (by omega) (by simp; exact h.lb.1)⟩
  · simp at hx
    subst hx
    exact h.hh.own.ne h.ms.box (by decide) hk2
  · obtain ⟨k1, _, _, cur, k4⟩ := h.qr b t a hb hq
    have hl4 := (Array.getElem?_eq_some_iff.1 k4).1
    exact ⟨k1, fun e => by have := h1 _ e; omega, fun e => by have := h2 _ e; omega, cur, (hk.block _ hl4 (hqo b t a hb hq)).trans k4⟩
/-- A root is dropped, on both sides. -/
theorem Jt.drop (h : Jt B w wb hp hd base cells S first v ts vp ps vq qs next D mp q ks R) (j : Nat) {w1 : World} {vp1 vq1 : Value} (hms : MS w1 wb (.pointer (some ⟨hp, 0, none⟩)) hd base vp1 (ps.eraseIdx j) vq1 (qs.eraseIdx j)) (hk : Kp [wb] w w1) (h1 : ∀ k, vp1.ownBlock = some k → w.heap.size ≤ k) (h2 : ∀ k, vq1.ownBlock = some k → w.heap.size ≤ k) :
    Jt B w1 wb hp hd base cells S first v ts vp1 (ps.eraseIdx j) vq1 (qs.eraseIdx j) next D mp q ks R ∧ Below B w w1 := by
  refine h.reroot hms hk h1 h2 (h.iso.drop j) (fun c hc => List.mem_of_mem_eraseIdx hc) (fun c hc => List.mem_of_mem_eraseIdx hc) ?_
  have := h.pl
  rw [List.length_eraseIdx]
  split <;> omega
/-- Collect on the program's side: how many cells; both sides together behind it. -/
theorem Jt.collected (h : Jt B w wb hp hd base cells S first v ts vp ps vq qs next D mp q ks R) (hS : S + 1 ≤ 3000000000000) {e : Ending} {w1 : World} (hC : CollectPost w hp cells first v ts ps base vp e w1) :
    ∃ n : Nat, e = .returned (.int .i64 n) ∧ (∀ W : List Int, W.Nodup → (∀ y, y ∈ W ↔ Reach D qs y) → n = cellsT D W) ∧ ∃ first1 v1 ts1 ps1 R1, Jt B w1 wb hp hd base cells (S + 1) first1 v1 ts1 vp ps1 vq qs next D mp q ks R1 ∧ Below B w w1 := by
  cases hC with
  | mk V v' w1 hn hV hs hh hr hk hf =>
    obtain ⟨R1, hJ, hB⟩ := h.gc (Gc.moved h.hh hV hs hh hr hk hf) hS
    exact ⟨_, rfl, fun W hW h2 => h.iso.cells hn hW hV h2, _, _, _, _, R1, hJ, hB⟩
end
end Go.Proofs.Ytfeopoamednidaa
