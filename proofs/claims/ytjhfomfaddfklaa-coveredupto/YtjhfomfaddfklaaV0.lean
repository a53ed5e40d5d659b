/-
  The program's layer matches: what it makes of patterns (parts, lines), as it lies in memory.
-/
import Derived.Test.YtjhfomfaddfklaaU14
namespace Go.Proofs.Ytjhfomfaddfklaa
open Go.RowKit Go.Deep
/-- What a pattern asks for by itself. -/
structure Hd where
  k : Int
  n : Int
  s : ByteArray
  m : Nat
def hnum (Q : Pt) : Int := if Q.k = 3 ∨ Q.k = 6 ∨ Q.k = 7 ∨ Q.k = 4 then Q.n else 0
def htxt (Q : Pt) : ByteArray := if Q.k = 4 then Q.s else { data := #[] }
def hdOf (P : Pt) : Hd := ⟨(bareP P).k, hnum (bareP P), htxt (bareP P), (bareP P).kids.length⟩
def Hd.val (h : Hd) : Value := .agg #[.int .i64 h.k, .int .i64 h.n, .string h.s, .int .i64 h.m]
def isAny (P : Pt) : Prop := (bareP P).k = 0
instance (P : Pt) : Decidable (isAny P) := inferInstanceAs (Decidable ((bareP P).k = 0))
/-- The six cells of a part. -/
structure Part6 (w : World) (b : Nat) (Q : Pt) (p : Option Addr) (cap : Nat) : Prop where
  c0 : w.cell? ⟨b, 0, none⟩ = some (.int .i64 Q.k)
  c1 : w.cell? ⟨b, 1, none⟩ = some (.int .i64 (hnum Q))
  c2 : w.cell? ⟨b, 2, none⟩ = some (.string (htxt Q))
  c3 : w.cell? ⟨b, 3, none⟩ = some (.int .i64 Q.kids.length)
  c4 : w.cell? ⟨b, 4, none⟩ = some (.int .i64 Q.o)
  c5 : w.cell? ⟨b, 5, none⟩ = some (.slice p Q.kids.length cap)
theorem Part6.lt {w : World} {b : Nat} {Q : Pt} {p : Option Addr} {cap : Nat} (h : Part6 w b Q p cap) : b < w.heap.size := World.block_lt_of_cell? _ _ h.c0
theorem Part6.block {w w' : World} {b : Nat} {Q : Pt} {p : Option Addr} {cap : Nat} (h : Part6 w b Q p cap) (hb : w'.heap[b]? = w.heap[b]?) : Part6 w' b Q p cap := by
  have e : ∀ j, w'.cell? ⟨b, j, none⟩ = w.cell? ⟨b, j, none⟩ := fun j => World.cell?_of_block (w := w) hb
  exact ⟨(e _).trans h.c0, (e _).trans h.c1, (e _).trans h.c2, (e _).trans h.c3, (e _).trans h.c4, (e _).trans h.c5⟩
/-- What the program makes of a pattern lies in memory. -/
inductive PrtIn (w : World) : Option Addr → Pt → Prop
  | any (P : Pt) (h : (bareP P).k = 0) : PrtIn w none P
  | mk (P : Pt) (b : Nat) (p : Option Addr) (cap : Nat) (L : List Pt) (C : Nat → Option Addr) (hk : (bareP P).k ≠ 0) (hL : (bareP P).kids.reverse = L) (hc : Part6 w b (bareP P) p cap) (hm : L.length ≤ maxLen) (hcap : L.length ≤ cap) (hz : p = none → cap = 0) (hp : ∀ i, i < L.length → ∃ b' o', p = some ⟨b', o', none⟩ ∧ w.cell? ⟨b', o' + i, none⟩ = some (.pointer (C i))) (hr : ∀ i (h : i < L.length), PrtIn w (C i) (L[i]'h)) : PrtIn w (some ⟨b, 0, none⟩) P
theorem PrtIn.keep {w w' : World} {v : Option Addr} {P : Pt} (h : PrtIn w v P) (hb : Below w.heap.size w w') : PrtIn w' v P := by
  induction h with
  | any P h => exact PrtIn.any P h
  | mk P b p cap L C hk hL hc hm hcap hz hp hr ih =>
    refine PrtIn.mk P b p cap L C hk hL (hc.block (hb.block b hc.lt)) hm hcap hz (fun i hi => ?_) ih
    obtain ⟨b', o', h1, h2⟩ := hp i hi
    exact ⟨b', o', h1, (hb.cell (p := ⟨b', o' + i, none⟩) (World.block_lt_of_cell? _ _ h2)).trans h2⟩
/-- A line: parts side by side, the first one last. -/
structure LineAt (wb w : World) (p : Option Addr) (l : List Pt) : Prop where
  len : l.length ≤ maxLen
  get : ∀ i (hi : i < l.length), ∃ b o v, p = some ⟨b, o, none⟩ ∧ w.cell? ⟨b, o + i, none⟩ = some (.pointer v) ∧ PrtIn wb v (l[i]'hi)
theorem LineAt.nil (wb w : World) (p : Option Addr) : LineAt wb w p [] := ⟨Nat.zero_le _, fun i hi => by cases hi⟩
theorem LineAt.below {wb w w' : World} {p : Option Addr} {l : List Pt} (h : LineAt wb w p l) (hb : Below w.heap.size w w') : LineAt wb w' p l :=
  ⟨h.len, fun i hi => by
    obtain ⟨b, o, v, h1, h2, h3⟩ := h.get i hi
    exact ⟨b, o, v, h1, (hb.cell (p := ⟨b, o + i, none⟩) (World.block_lt_of_cell? _ _ h2)).trans h2, h3⟩⟩
theorem LineAt.base {wb wb' w : World} {p : Option Addr} {l : List Pt} (h : LineAt wb w p l) (hb : Below wb.heap.size wb wb') : LineAt wb' w p l :=
  ⟨h.len, fun i hi => by
    obtain ⟨b, o, v, h1, h2, h3⟩ := h.get i hi
    exact ⟨b, o, v, h1, h2, h3.keep hb⟩⟩
theorem LineAt.cellAt {wb w : World} {p : Option Addr} {l : List Pt} (h : LineAt wb w p l) {w' : World} (hk : ∀ b : Addr, p = some b → w'.heap[b.block]? = w.heap[b.block]?) : LineAt wb w' p l :=
  ⟨h.len, fun i hi => by
    obtain ⟨b, o, v, h1, h2, h3⟩ := h.get i hi
    have hb := hk _ h1
    have e : ∀ j, w'.cell? ⟨b, j, none⟩ = w.cell? ⟨b, j, none⟩ := fun j => World.cell?_of_block (w := w) hb
    exact ⟨b, o, v, h1, (e _).trans h2, h3⟩⟩
theorem LineAt.cellNe {wb w : World} {p : Option Addr} {l : List Pt} (h : LineAt wb w p l) {w' : World} (hk : l ≠ [] → ∀ b : Addr, p = some b → w'.heap[b.block]? = w.heap[b.block]?) : LineAt wb w' p l := by
  by_cases hl : l = []
  · subst hl
    exact LineAt.nil _ _ _
  · exact h.cellAt (hk hl)
theorem LineAt.lt {wb w : World} {p : Option Addr} {l : List Pt} (h : LineAt wb w p l) (hl : l ≠ []) : ∀ b : Addr, p = some b → b.block < w.heap.size := fun b hb => by
  obtain ⟨b', o, v, h1, h2, h3⟩ := h.get 0 (List.length_pos_iff.2 hl)
  rw [hb] at h1
  cases h1
  exact World.block_lt_of_cell? _ _ h2
/-- What is known of a part that is asked for. -/
theorem PrtIn.open_ {wb : World} {v : Option Addr} {P : Pt} (h : PrtIn wb v P) (hk : (bareP P).k ≠ 0) : ∃ b p cap, v = some ⟨b, 0, none⟩ ∧ Part6 wb b (bareP P) p cap ∧ (bareP P).kids.length ≤ cap ∧ (p = none → cap = 0) ∧ LineAt wb wb p (bareP P).kids.reverse := by
  cases h with
  | any P h => exact absurd h hk
  | mk P b p cap L C _ hL hc hm hcap hz hp hr =>
    subst hL
    refine ⟨b, p, cap, rfl, hc, by simpa using hcap, hz, ⟨hm, fun i hi => ?_⟩⟩
    obtain ⟨b', o', h1, h2⟩ := hp i hi
    exact ⟨b', o', C i, h1, h2, hr i hi⟩
theorem PrtIn.none_ {wb : World} {v : Option Addr} {P : Pt} (h : PrtIn wb v P) (hk : (bareP P).k = 0) : v = none := by
  cases h with
  | any P h => rfl
  | mk P b p cap L C hk' => exact absurd hk hk'
/-- Lines of lines. -/
structure LinesAt (wb w : World) (p : Option Addr) (m : List (List Pt)) : Prop where
  len : m.length ≤ maxLen
  get : ∀ i (hi : i < m.length), ∃ b o q cap, p = some ⟨b, o, none⟩ ∧ w.cell? ⟨b, o + i, none⟩ = some (.slice q (m[i]'hi).length cap) ∧ (m[i]'hi).length ≤ cap ∧ (q = none → cap = 0) ∧ LineAt wb w q (m[i]'hi)
theorem LinesAt.below {wb w w' : World} {p : Option Addr} {m : List (List Pt)} (h : LinesAt wb w p m) (hb : Below w.heap.size w w') : LinesAt wb w' p m :=
  ⟨h.len, fun i hi => by
    obtain ⟨b, o, q, cap, h1, h2, h3, h5, h4⟩ := h.get i hi
    exact ⟨b, o, q, cap, h1, (hb.cell (p := ⟨b, o + i, none⟩) (World.block_lt_of_cell? _ _ h2)).trans h2, h3, h5, h4.below hb⟩⟩
theorem LinesAt.base {wb wb' w : World} {p : Option Addr} {m : List (List Pt)} (h : LinesAt wb w p m) (hb : Below wb.heap.size wb wb') : LinesAt wb' w p m :=
  ⟨h.len, fun i hi => by
    obtain ⟨b, o, q, cap, h1, h2, h3, h5, h4⟩ := h.get i hi
    exact ⟨b, o, q, cap, h1, h2, h3, h5, h4.base hb⟩⟩
theorem LinesAt.nil (wb w : World) (p : Option Addr) : LinesAt wb w p [] := ⟨Nat.zero_le _, fun i hi => by cases hi⟩
/-- A line as an element of a row of lines. -/
structure LC where
  q : Option Addr
  cap : Nat
  l : List Pt
def LC.val (x : LC) : Value := .slice x.q x.l.length x.cap
/-- Rows of lines of one's own. -/
structure OwnL (wb w : World) (base : Nat) (v : Value) (M : List LC) : Prop where
  row : w.ownsRow base 41 1 v M.length (M.map LC.val)
  els : ∀ x ∈ M, LineAt wb w x.q x.l ∧ x.l.length ≤ x.cap ∧ (x.q = none → x.cap = 0) ∧ (x.l ≠ [] → ∀ b, x.q = some b → v.ownBlock ≠ some b.block ∧ b.block < w.heap.size)
theorem OwnL.nil (wb w : World) (base : Nat) : OwnL wb w base (.slice none 0 0) [] := ⟨World.ownsRow_nil _ _ _ _, fun _ hx => by cases hx⟩
theorem OwnL.below {wb w w' : World} {base : Nat} {v : Value} {M : List LC} (h : OwnL wb w base v M) (hb : Below w.heap.size w w') : OwnL wb w' base v M :=
  ⟨owns_below h.row hb, fun x hx => ⟨(h.els x hx).1.below hb, (h.els x hx).2.1, (h.els x hx).2.2.1, fun hne b hq => ⟨((h.els x hx).2.2.2 hne b hq).1, Nat.lt_of_lt_of_le ((h.els x hx).2.2.2 hne b hq).2 hb.size⟩⟩⟩
theorem OwnL.base {wb wb' w : World} {base : Nat} {v : Value} {M : List LC} (h : OwnL wb w base v M) (hb : Below wb.heap.size wb wb') : OwnL wb' w base v M :=
  ⟨h.row, fun x hx => ⟨(h.els x hx).1.base hb, (h.els x hx).2.1, (h.els x hx).2.2.1, (h.els x hx).2.2.2⟩⟩
theorem OwnL.at {wb w : World} {base : Nat} {v : Value} {M : List LC} (h : OwnL wb w base v M) (hm : M.length ≤ maxLen) : ∃ q cap, v = .slice q M.length cap ∧ M.length ≤ cap ∧ LinesAt wb w q (M.map (·.l)) := by
  rcases h.row.2 with ⟨rfl, h0⟩ | ⟨g, cap, cur, rfl, h1, h2, h3, h4, h5, h6⟩
  · have : M = [] := List.eq_nil_of_length_eq_zero h0
    subst this
    exact ⟨none, 0, rfl, Nat.le_refl _, LinesAt.nil _ _ _⟩
  · refine ⟨some ⟨g, 0, none⟩, cap, rfl, h3, ⟨by simpa using hm, fun i hi => ?_⟩⟩
    have hi2 : i < M.length := by simpa using hi
    have hc := h.row.cells (g := g) rfl i ((M[i]'hi2).val) (by simp [hi2])
    rw [add_at] at hc
    obtain ⟨e1, e2, e4, e3⟩ := h.els _ (List.getElem_mem hi2)
    refine ⟨g, 0, (M[i]'hi2).q, (M[i]'hi2).cap, rfl, ?_, ?_, e4, ?_⟩
    · simpa [LC.val] using hc
    · simpa using e2
    · simpa using e1
theorem infos41 : (Try.prog.info? 41).map (fun i => (i.zero, i.size, i.bytes)) = some (some (.slice none 0 0), 1, 24) := by kernel_rfl
theorem slice39 : Try.prog.underlying 39 = some (.slice 41) := by kernel_rfl
/-- A line more. -/
theorem wpList_append_line {ops : Array Oper} {rest : List Oper} {op : Oper} {a : Act} {Q : Exit → Act → World → Prop} (hgd : op.guard = none) (s x : Operand) (hop : op.op = .call { callee := .builtin .append, args := #[s, x], argTypes := #[39, 39] })
    {wb w : World} {base : Nat} {v : Value} {M : List LC} (ho : OwnL wb w base v M) (r : LC) (hr : LineAt wb w r.q r.l) (hrc : r.l.length ≤ r.cap) (hrn : r.q = none → r.cap = 0) (hrq : r.l ≠ [] → ∀ b, r.q = some b → v.ownBlock ≠ some b.block ∧ b.block < w.heap.size) (hl : (M.length + 1) * 24 ≤ 140737488355328) (hbase : base ≤ w.heap.size) (hs : a.eval s = v) (hx : a.eval x = .slice (some ⟨w.heap.size, 0, none⟩) 1 1)
    (h : ∀ v' w', Hid (OwnL wb w' base v' (M ++ [r])) → Hid ((w.alloc (.cells #[r.val] 41)).grownBy w' v.ownBlock) → wpList Try.prog ops Q rest (a.put op.dst v') w') : wpList Try.prog ops Q (op :: rest) a (w.alloc (.cells #[r.val] 41)) := by
  obtain ⟨i0, hi0, hzz0, hzz1, hzz2⟩ := info_parts infos41
  refine wpList_append_own_at _ hgd s x 39 hop base 41 i0 _ 1 24 slice39 hi0 hzz0 hzz1 hzz2 rfl (by decide) v M.length (M.map LC.val) hs (ho.row.alloc _) ⟨w.heap.size, 0, none⟩ 1 1 [r.val] hx rfl (cell_one_new w r.val 41) (by intro u hu; simp only [List.mem_cons, List.not_mem_nil, or_false] at hu; subst hu; rfl) (by unfold maxLen; omega) (by omega) (by simp; omega) ?_
  intro v' w' h1 h2 _ h4
  refine h v' w' ⟨by simpa using h1, fun y hy => ?_⟩ h2
  have hkeep : ∀ (q : Option Addr), (∀ b, q = some b → v.ownBlock ≠ some b.block ∧ b.block < w.heap.size) → ∀ b : Addr, q = some b → w'.heap[b.block]? = w.heap[b.block]? ∧ v'.ownBlock ≠ some b.block ∧ b.block < w'.heap.size := fun q hq b hb => by
    obtain ⟨e1, e2⟩ := hq b hb
    have hlt : b.block < (w.alloc (.cells #[r.val] 41)).heap.size := by simp; omega
    refine ⟨(h2.block b.block hlt (fun e => e1 e.symm)).trans (Below.heap_alloc _ _ _ e2), fun e => ?_, Nat.lt_of_lt_of_le hlt h2.size⟩
    rcases h4 with h4 | h4
    · rw [h4] at e
      exact e1 e
    · rw [h4] at e
      simp at e
      omega
  rcases List.mem_append.1 hy with hy | hy
  · obtain ⟨e1, e2, e4, e3⟩ := ho.els y hy
    exact ⟨e1.cellNe (fun hne b hb => (hkeep _ (e3 hne) b hb).1), e2, e4, fun hne b hb => (hkeep _ (e3 hne) b hb).2⟩
  · obtain rfl : y = r := by simpa using hy
    exact ⟨hr.cellNe (fun hne b hb => (hkeep _ (hrq hne) b hb).1), hrc, hrn, fun hne b hb => (hkeep _ (hrq hne) b hb).2⟩
end Go.Proofs.Ytjhfomfaddfklaa
