/-
  Types in memory of one's own; a row of them, made one by one.
-/
import Derived.Test.YtbgpjaniohpfaaaK10
import Derived.Maps.AppendAt
import Derived.OwnWalk
namespace Go.Proofs.Ytbgpjaniohpfaaa
open Go.RowKit Go.Deep
/-- A type that lies in some blocks alone. -/
inductive TyAt (P : Nat → Prop) (w : World) : List Value → Ty → Prop
  | mk (k n : Int) (s : ByteArray) (e : Int) (l : List Ty) (p : Option Addr) (cap b o : Nat) (C : Nat → List Value)
      (hp : l ≠ [] → p = some ⟨b, o, none⟩ ∧ P b)
      (hw : (Lit.int .i64 k).wf = true ∧ (Lit.int .i64 n).wf = true ∧ (Lit.int .i64 e).wf = true ∧ s.size ≤ maxLen ∧ l.length ≤ maxLen ∧ l.length ≤ cap)
      (hc : ∀ i, i < l.length → ∀ j, j < 5 → w.cell? ⟨b, o + (i * 5 + j), none⟩ = (C i)[j]?)
      (hr : ∀ i (h : i < l.length), TyAt P w (C i) (l[i]'h)) :
      TyAt P w [.int .i64 k, .int .i64 n, .string s, .int .i64 e, .slice p l.length cap] (.mk k n s e l)
theorem TyAt.tyIn {P : Nat → Prop} {w : World} {cs : List Value} {T : Ty} (h : TyAt P w cs T) : TyIn w cs T := by
  induction h with
  | mk k n s e l p cap b o C hp hw hc hr ih => exact TyIn.mk k n s e l p cap b o C (fun h => (hp h).1) hw hc ih
theorem TyAt.len {P : Nat → Prop} {w : World} {cs : List Value} {T : Ty} (h : TyAt P w cs T) : cs.length = 5 := by
  cases h
  rfl
theorem TyAt.keep {P Q : Nat → Prop} {w w' : World} {cs : List Value} {T : Ty} (h : TyAt P w cs T) (hb : ∀ b, P b → b < w.heap.size → w'.heap[b]? = w.heap[b]? ∧ Q b) : TyAt Q w' cs T := by
  induction h with
  | mk k n s e l p cap b o C hp hw hc hr ih =>
    have hlt : 0 < l.length → b < w.heap.size := by
      intro hl
      have h1 := hc 0 hl 0 (by omega)
      rw [List.getElem?_eq_getElem (by rw [(hr 0 hl).len]; omega)] at h1
      exact World.block_lt_of_cell? _ _ h1
    refine TyAt.mk k n s e l p cap b o C ?_ hw ?_ ih
    · intro hl
      obtain ⟨h1, h2⟩ := hp hl
      exact ⟨h1, (hb b h2 (hlt (List.length_pos_iff.2 hl))).2⟩
    · intro i hi j hj
      rw [World.cell?_of_block (w := w) (hb b (hp (by intro h; rw [h] at hi; exact absurd hi (Nat.not_lt_zero _))).2 (hlt (by omega))).1]
      exact hc i hi j hj
theorem TyAt.shape {P : Nat → Prop} {w : World} {cs : List Value} {T : Ty} (h : TyAt P w cs T) : ∃ k n s e l p cap, T = .mk k n s e l ∧ cs = [.int .i64 k, .int .i64 n, .string s, .int .i64 e, .slice p (l : List Ty).length cap] := by
  cases h with
  | mk k n s e l p cap b o C hp hw hc hr => exact ⟨k, n, s, e, l, p, cap, rfl, rfl⟩
/-- A type without arguments. -/
theorem TyAt.leaf (P : Nat → Prop) (w : World) {k n e : Int} {s : ByteArray} (hk : (Lit.int .i64 k).wf = true) (hn : (Lit.int .i64 n).wf = true) (he : (Lit.int .i64 e).wf = true) (hs : s.size ≤ maxLen) : TyAt P w [.int .i64 k, .int .i64 n, .string s, .int .i64 e, .slice none 0 0] (.mk k n s e []) :=
  TyAt.mk k n s e [] none 0 0 0 (fun _ => []) (fun h => absurd rfl h) ⟨hk, hn, he, hs, Nat.zero_le _, Nat.zero_le _⟩ (fun _ hi => absurd hi (Nat.not_lt_zero _)) (fun _ hi => absurd hi (Nat.not_lt_zero _))
def rowCells (L : List (List Value × Ty)) : List Value := L.flatMap fun x => x.1
def TysAt (P : Nat → Prop) (w : World) (L : List (List Value × Ty)) : Prop := ∀ x ∈ L, TyAt P w x.1 x.2
theorem rowCells_at {P : Nat → Prop} {w : World} : ∀ (L : List (List Value × Ty)), TysAt P w L → ∀ i (hi : i < L.length) (j : Nat), j < 5 → (rowCells L)[i * 5 + j]? = (L[i]'hi).1[j]?
  | [], _, i, hi, _, _ => absurd hi (Nat.not_lt_zero _)
  | x :: L, h, 0, hi, j, hj => by
    unfold rowCells
    rw [List.flatMap_cons, List.getElem?_append_left (by rw [(h x (List.mem_cons_self ..)).len]; omega)]
    simp
  | x :: L, h, i + 1, hi, j, hj => by
    have ih := rowCells_at L (fun y hy => h y (List.mem_cons_of_mem _ hy)) i (by simpa using hi) j hj
    unfold rowCells at ih ⊢
    have hl := (h x (List.mem_cons_self ..)).len
    rw [List.flatMap_cons, List.getElem?_append_right (by rw [hl]; omega), hl, show (i + 1) * 5 + j - 5 = i * 5 + j from by omega, ih]
    simp
theorem rowCells_snoc (L : List (List Value × Ty)) (x : List Value × Ty) : rowCells (L ++ [x]) = rowCells L ++ x.1 := by simp [rowCells]
theorem row_type {P : Nat → Prop} {w : World} {base : Nat} {v : Value} {L : List (List Value × Ty)} (ho : w.ownsRow base 33 5 v L.length (rowCells L)) (hL : TysAt P w L) (hg : ∀ g, v.ownBlock = some g → P g) {k n e : Int} {s : ByteArray} (hk : (Lit.int .i64 k).wf = true) (hn : (Lit.int .i64 n).wf = true) (he : (Lit.int .i64 e).wf = true) (hs : s.size ≤ maxLen) :
    ∃ p cap, v = .slice p (L.map (·.2)).length cap ∧ TyAt P w [.int .i64 k, .int .i64 n, .string s, .int .i64 e, .slice p (L.map (·.2)).length cap] (.mk k n s e (L.map (·.2))) := by
  rcases ho.2 with ⟨rfl, h0⟩ | ⟨g, cap, cur, rfl, h1, h2, h3, h4, h5, h6⟩
  · have : L = [] := List.eq_nil_of_length_eq_zero h0
    subst this
    exact ⟨none, 0, rfl, TyAt.leaf P w hk hn he hs⟩
  · have hlm : (L.map (·.2)).length = L.length := by simp
    refine ⟨some ⟨g, 0, none⟩, cap, by rw [hlm], ?_⟩
    refine TyAt.mk k n s e (L.map (·.2)) (some ⟨g, 0, none⟩) cap g 0 (fun i => ((L[i]?).map (·.1)).getD []) (fun _ => ⟨rfl, hg g rfl⟩) ⟨hk, hn, he, hs, by rw [hlm]; omega, by rw [hlm]; exact h3⟩ ?_ ?_
    · intro i hi j hj
      rw [hlm] at hi
      have hc := rowCells_at L hL i hi j hj
      have hlt : i * 5 + j < L.length * 5 := by omega
      rw [List.getElem?_eq_getElem hi]
      simp only [Option.map_some, Option.getD_some]
      rw [← hc, ← h6, List.getElem?_take, if_pos hlt]
      simp [World.cell?, h2]
    · intro i hi
      rw [hlm] at hi
      rw [List.getElem?_eq_getElem hi]
      simp only [Option.map_some, Option.getD_some, List.getElem_map]
      exact hL _ (List.getElem_mem hi)
theorem ownsRow.kp {X : List Nat} {w w' : World} {base : Nat} {e : TypeId} {size : Nat} {v : Value} {n : Nat} {xs : List Value} (h : w.ownsRow base e size v n xs) (hk : Kp X w w') (hX : ∀ g, v.ownBlock = some g → g ∉ X) : w'.ownsRow base e size v n xs := by
  obtain ⟨h1, h2⟩ := h
  refine ⟨h1, ?_⟩
  rcases h2 with h2 | ⟨g, cap, cur, hv, hg, hh, r⟩
  · exact Or.inl h2
  · refine Or.inr ⟨g, cap, cur, hv, hg, ?_, r⟩
    rw [hk.block g (Array.getElem?_eq_some_iff.1 hh).1 (hX g (by rw [hv]; rfl))]
    exact hh
/-- One element more in a row of one's own: what stays so. -/
theorem TysAt.append {w w2 w3 w4 : World} {B : Nat} {v v' : Value} {L : List (List Value × Ty)} {x : List Value × Ty} (hL : TysAt (fun b => B ≤ b ∧ some b ≠ v.ownBlock) w L) (hx : TyAt (fun b => w.heap.size ≤ b) w2 x.1 x.2) (hB : B ≤ w.heap.size) (hv : ∀ g, v.ownBlock = some g → g < w.heap.size)
    (h12 : ∀ b, B ≤ b → b < w.heap.size → w2.heap[b]? = w.heap[b]?) (hs2 : w.heap.size ≤ w2.heap.size) (h23 : Below w2.heap.size w2 w3) (h34 : w3.grownBy w4 v.ownBlock) (hat : v'.ownBlock = v.ownBlock ∨ v'.ownBlock = some w3.heap.size) : TysAt (fun b => B ≤ b ∧ some b ≠ v'.ownBlock) w4 (L ++ [x]) := by
  have hs3 := h23.size
  have hne : ∀ b, b < w3.heap.size → some b ≠ v.ownBlock → some b ≠ v'.ownBlock := by
    intro b h1 h2 h3
    rcases hat with h | h
    · rw [h] at h3; exact h2 h3
    · rw [h] at h3
      have : b = w3.heap.size := by simpa using h3
      omega
  intro y hy
  rcases List.mem_append.1 hy with hy | hy
  · refine (hL y hy).keep fun b hb hlt => ⟨?_, hb.1, hne b (by omega) hb.2⟩
    rw [h34.block b (by omega) hb.2, h23.block b (by omega), h12 b hb.1 hlt]
  · obtain rfl : y = x := by simpa using hy
    refine hx.keep fun b hb hlt => ?_
    have hnv : some b ≠ v.ownBlock := fun h => by have := hv b h.symm; omega
    exact ⟨by rw [h34.block b (by omega) hnv, h23.block b hlt], by omega, hne b (by omega) hnv⟩
end Go.Proofs.Ytbgpjaniohpfaaa
