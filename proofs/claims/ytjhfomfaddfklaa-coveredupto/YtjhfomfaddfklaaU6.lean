/-
  The document's layer matches: rows of rows of one's own; what rows ask for behind a first value (rests).
-/
import Derived.Test.YtjhfomfaddfklaaU5
namespace Go.Proofs.Ytjhfomfaddfklaa
open Go.RowKit Go.Deep
/-- A row as an element of a row of rows. -/
structure RC where
  q : Option Addr
  cap : Nat
  l : List Pt
def RC.val (x : RC) : Value := .slice x.q x.l.length x.cap
/-- Rows of rows of one's own. -/
structure OwnM (wb w : World) (base : Nat) (v : Value) (M : List RC) : Prop where
  row : w.ownsRow base 23 1 v M.length (M.map RC.val)
  els : ∀ x ∈ M, RowAt wb w x.q x.l ∧ x.l.length ≤ x.cap ∧ ∀ b, x.q = some b → v.ownBlock ≠ some b.block ∧ b.block < w.heap.size
theorem OwnM.nil (wb w : World) (base : Nat) : OwnM wb w base (.slice none 0 0) [] := ⟨World.ownsRow_nil _ _ _ _, fun _ hx => by cases hx⟩
theorem owns_below {w w' : World} {base : Nat} {e : TypeId} {size : Nat} {v : Value} {n : Nat} {xs : List Value} (h : w.ownsRow base e size v n xs) (hb : Below w.heap.size w w') : w'.ownsRow base e size v n xs := by
  obtain ⟨q1, q2⟩ := h
  refine ⟨q1, ?_⟩
  rcases q2 with q2 | ⟨g, cap, cur, qv, qg, qh, qq⟩
  · exact .inl q2
  · exact .inr ⟨g, cap, cur, qv, qg, (hb.block g (Array.getElem?_eq_some_iff.1 qh).1).trans qh, qq⟩
theorem OwnM.below {wb w w' : World} {base : Nat} {v : Value} {M : List RC} (h : OwnM wb w base v M) (hb : Below w.heap.size w w') : OwnM wb w' base v M :=
  ⟨owns_below h.row hb, fun x hx => ⟨(h.els x hx).1.below hb, (h.els x hx).2.1, fun b hq => ⟨((h.els x hx).2.2 b hq).1, Nat.lt_of_lt_of_le ((h.els x hx).2.2 b hq).2 hb.size⟩⟩⟩
theorem OwnM.at {wb w : World} {base : Nat} {v : Value} {M : List RC} (h : OwnM wb w base v M) (hm : M.length ≤ maxLen) : ∃ q cap, v = .slice q M.length cap ∧ M.length ≤ cap ∧ MatAt wb w q (M.map (·.l)) := by
  rcases h.row.2 with ⟨rfl, h0⟩ | ⟨g, cap, cur, rfl, h1, h2, h3, h4, h5, h6⟩
  · have : M = [] := List.eq_nil_of_length_eq_zero h0
    subst this
    exact ⟨none, 0, rfl, Nat.le_refl _, MatAt.nil _ _ _⟩
  · refine ⟨some ⟨g, 0, none⟩, cap, rfl, h3, ⟨by simpa using hm, fun i hi => ?_⟩⟩
    have hi2 : i < M.length := by simpa using hi
    have hc := h.row.cells (g := g) rfl i ((M[i]'hi2).val) (by simp [hi2])
    rw [add_at] at hc
    obtain ⟨e1, e2, e3⟩ := h.els _ (List.getElem_mem hi2)
    refine ⟨g, 0, (M[i]'hi2).q, (M[i]'hi2).cap, rfl, ?_, ?_, ?_⟩
    · simpa [RC.val] using hc
    · simpa using e2
    · simpa using e1
theorem RowAt.cellAt {wb w : World} {p : Option Addr} {l : List Pt} (h : RowAt wb w p l) {w' : World} (hk : ∀ b : Addr, p = some b → w'.heap[b.block]? = w.heap[b.block]?) : RowAt wb w' p l :=
  ⟨h.len, fun i hi => by
    obtain ⟨b, o, c, h1, h2, h3⟩ := h.get i hi
    have hb := hk _ h1
    have e : ∀ j, w'.cell? ⟨b, j, none⟩ = w.cell? ⟨b, j, none⟩ := fun j => World.cell?_of_block (w := w) hb
    exact ⟨b, o, c, h1, ⟨(e _).trans h2.c0, (e _).trans h2.c1, (e _).trans h2.c2, (e _).trans h2.c3, (e _).trans h2.c4, (e _).trans h2.c5⟩, h3⟩⟩
theorem infos23 : (Try.prog.info? 23).map (fun i => (i.zero, i.size, i.bytes)) = some (some (.slice none 0 0), 1, 24) := by kernel_rfl
theorem slice22 : Try.prog.underlying 22 = some (.slice 23) := by kernel_rfl
/-- A row more. -/
theorem wpList_append_mat {ops : Array Oper} {rest : List Oper} {op : Oper} {a : Act} {Q : Exit → Act → World → Prop} (hgd : op.guard = none) (s x : Operand) (hop : op.op = .call { callee := .builtin .append, args := #[s, x], argTypes := #[22, 22] })
    {wb w : World} {base : Nat} {v : Value} {M : List RC} (ho : OwnM wb w base v M) (r : RC) (hr : RowAt wb w r.q r.l) (hrc : r.l.length ≤ r.cap) (hrq : ∀ b, r.q = some b → v.ownBlock ≠ some b.block ∧ b.block < w.heap.size) (hl : M.length + 1 ≤ 1000000) (hbase : base ≤ w.heap.size) (hs : a.eval s = v) (hx : a.eval x = .slice (some ⟨w.heap.size, 0, none⟩) 1 1)
    (h : ∀ v' w', Hid (OwnM wb w' base v' (M ++ [r])) → Hid ((w.alloc (.cells #[r.val] 23)).grownBy w' v.ownBlock) → wpList Try.prog ops Q rest (a.put op.dst v') w') : wpList Try.prog ops Q (op :: rest) a (w.alloc (.cells #[r.val] 23)) := by
  obtain ⟨i0, hi0, hzz0, hzz1, hzz2⟩ := info_parts infos23
  refine wpList_append_own_at _ hgd s x 22 hop base 23 i0 _ 1 24 slice22 hi0 hzz0 hzz1 hzz2 rfl (by decide) v M.length (M.map RC.val) hs (ho.row.alloc _) ⟨w.heap.size, 0, none⟩ 1 1 [r.val] hx rfl (cell_one_new w r.val 23) (by intro u hu; simp only [List.mem_cons, List.not_mem_nil, or_false] at hu; subst hu; rfl) (by unfold maxLen; omega) (by omega) (by simp; omega) ?_
  intro v' w' h1 h2 _ h4
  refine h v' w' ⟨by simpa using h1, fun y hy => ?_⟩ h2
  have hkeep : ∀ (q : Option Addr), (∀ b, q = some b → v.ownBlock ≠ some b.block ∧ b.block < w.heap.size) → ∀ b : Addr, q = some b → w'.heap[b.block]? = w.heap[b.block]? ∧ v'.ownBlock ≠ some b.block ∧ b.block < w'.heap.size := fun q hq b hb => by
    obtain ⟨e1, e2⟩ := hq b hb
    have hlt : b.block < (w.alloc (.cells #[r.val] 23)).heap.size := by simp; omega
    refine ⟨(h2.block b.block hlt (fun e => e1 e.symm)).trans (Below.heap_alloc _ _ _ e2), fun e => ?_, Nat.lt_of_lt_of_le hlt h2.size⟩
    rcases h4 with h4 | h4
    · rw [h4] at e
      exact e1 e
    · rw [h4] at e
      simp at e
      omega
  rcases List.mem_append.1 hy with hy | hy
  · obtain ⟨e1, e2, e3⟩ := ho.els y hy
    exact ⟨e1.cellAt (fun b hb => (hkeep _ e3 b hb).1), e2, fun b hb => (hkeep _ e3 b hb).2⟩
  · obtain rfl : y = r := by simpa using hy
    exact ⟨hr.cellAt (fun b hb => (hkeep _ hrq b hb).1), hrc, fun b hb => (hkeep _ hrq b hb).2⟩
/-- What rows ask for behind a first value. -/
def restsP (h : Pt) : List (List Pt) → List (List Pt)
  | [] => []
  | [] :: m => restsP h m
  | (x :: r) :: m => if (restP x r h).2 = true then (restP x r h).1 :: restsP h m else restsP h m
theorem restsP_snoc (h : Pt) (m : List (List Pt)) (x : Pt) (r : List Pt) : restsP h (m ++ [x :: r]) = restsP h m ++ (if (restP x r h).2 = true then [(restP x r h).1] else []) := by
  induction m with
  | nil =>
    rw [List.nil_append, restsP]
    split <;> simp_all [restsP]
  | cons y m ih =>
    rw [List.cons_append]
    cases y with
    | nil => rw [restsP, restsP, ih]
    | cons z s =>
      rw [restsP, restsP, ih]
      split <;> simp
theorem good_parts {k n o a : Int} {s : ByteArray} {l : List Pt} (h : (Pt.mk k n o a s l).good = true) : okP k n o l.length = true ∧ l.length ≤ 1000 ∧ ∀ x ∈ l, x.good = true := by
  unfold Pt.good at h
  simp only [Bool.and_eq_true, decide_eq_true_eq] at h
  exact ⟨h.1, h.2.1, Pt.goodL_mem.1 h.2.2⟩
theorem good_any : Pt.any.good = true := by decide +kernel
theorem good_bare : ∀ (x : Pt), x.good = true → (bareP x).good = true
  | .mk k n o a s [], h => by
    by_cases h1 : k = 1
    · rw [bareP_var h1]
      exact good_any
    · rw [bareP, if_neg h1]
      exact h
  | .mk k n o a s (x :: r), h => by
    by_cases h2 : k = 2
    · rw [bareP_as h2]
      exact good_bare x ((good_parts h).2.2 x (by simp))
    · by_cases h1 : k = 1
      · rw [bareP_var h1]
        exact good_any
      · rw [bareP_else h1 h2]
        exact h
theorem good_kids {x : Pt} (h : x.good = true) : x.kids.length ≤ 1000 ∧ ∀ y ∈ x.kids, y.good = true := by
  cases x with
  | mk k n o a s l => exact (good_parts h).2
structure Fine (m : List (List Pt)) : Prop where
  len : m.length ≤ 1000
  rows : ∀ r ∈ m, r ≠ [] ∧ r.length ≤ 300000 ∧ ∀ x ∈ r, x.good = true
inductive MatPost (wb : World) (R : List (List Pt)) (w : World) (e : Ending) (w' : World) : Prop
  | mk (q : Option Addr) (cap : Nat) (he : e = .returned (.slice q R.length cap)) (hc : R.length ≤ cap) (hR : MatAt wb w' q R) (hb : Below w.heap.size w w') : MatPost wb R w e w'
end Go.Proofs.Ytjhfomfaddfklaa
