/-
  The document's layer matches: rows of one's own; what a row asks for behind a first value (rest).
-/
import Derived.Test.YtjhfomfaddfklaaU3
import Derived.Laws.AppendOwnNone
namespace Go.Proofs.Ytjhfomfaddfklaa
open Go.RowKit Go.Deep
def rowV (L : List (PC × Pt)) : List Value := L.flatMap fun x => x.1.vals
theorem rowV_app (L M : List (PC × Pt)) : rowV (L ++ M) = rowV L ++ rowV M := by simp [rowV]
theorem rowV_len (L : List (PC × Pt)) : (rowV L).length = L.length * 6 := by
  induction L with
  | nil => rfl
  | cons x r ih =>
    have : rowV (x :: r) = x.1.vals ++ rowV r := rfl
    rw [this, List.length_append, ih]
    simp [PC.vals]
    omega
theorem rowV_get : ∀ (L : List (PC × Pt)) (i : Nat) (hi : i < L.length) (j : Nat), j < 6 → (rowV L)[i * 6 + j]? = (L[i]'hi).1.vals[j]?
  | x :: r, 0, _, j, hj => by
    have : rowV (x :: r) = x.1.vals ++ rowV r := rfl
    rw [this, Nat.zero_mul, Nat.zero_add, List.getElem?_append_left (by simp [PC.vals]; omega)]
    rfl
  | x :: r, i + 1, hi, j, hj => by
    have : rowV (x :: r) = x.1.vals ++ rowV r := rfl
    rw [this, List.getElem?_append_right (by simp [PC.vals]; omega)]
    have e : (i + 1) * 6 + j - x.1.vals.length = i * 6 + j := by simp [PC.vals]; omega
    rw [e, rowV_get r i (by simpa using hi) j hj]
    rfl
/-- A row of one's own. -/
structure OwnP (wb w : World) (base : Nat) (v : Value) (L : List (PC × Pt)) : Prop where
  row : w.ownsRow base 26 6 v L.length (rowV L)
  els : ∀ x ∈ L, PtIn wb x.1 x.2
theorem add_at (g o j : Nat) : (⟨g, o, none⟩ : Addr).add j = ⟨g, o + j, none⟩ := by unfold Addr.add; split <;> simp_all
theorem OwnP.at {wb w : World} {base : Nat} {v : Value} {L : List (PC × Pt)} (h : OwnP wb w base v L) (hm : L.length ≤ maxLen) : ∃ q cap, v = .slice q L.length cap ∧ L.length ≤ cap ∧ RowAt wb w q (L.map (·.2)) := by
  rcases h.row.2 with ⟨rfl, h0⟩ | ⟨g, cap, cur, rfl, h1, h2, h3, h4, h5, h6⟩
  · have : L = [] := List.eq_nil_of_length_eq_zero h0
    subst this
    exact ⟨none, 0, rfl, Nat.le_refl _, RowAt.nil _ _ _⟩
  · refine ⟨some ⟨g, 0, none⟩, cap, rfl, h3, ⟨by simpa using hm, fun i hi => ?_⟩⟩
    have hi2 : i < L.length := by simpa using hi
    have hc : ∀ j u, j < 6 → (L[i]'hi2).1.vals[j]? = some u → w.cell? ⟨g, 0 + i * 6 + j, none⟩ = some u := fun j u hj hu => by
      have := h.row.cells (g := g) rfl (i * 6 + j) u (by rw [rowV_get L i hi2 j hj]; exact hu)
      rw [add_at] at this
      rw [Nat.add_assoc]
      exact this
    refine ⟨g, 0, (L[i]'hi2).1, rfl, ⟨hc 0 _ (by omega) rfl, hc 1 _ (by omega) rfl, hc 2 _ (by omega) rfl, hc 3 _ (by omega) rfl, hc 4 _ (by omega) rfl, hc 5 _ (by omega) rfl⟩, ?_⟩
    have := h.els _ (List.getElem_mem hi2)
    simpa using this
/-- A row in memory, as a list of cells. -/
theorem RowAt.list {wb w : World} {p : Option Addr} {l : List Pt} (h : RowAt wb w p l) : ∃ L : List (PC × Pt), L.map (·.2) = l ∧ (∀ x ∈ L, PtIn wb x.1 x.2) ∧ ∀ j u, (rowV L)[j]? = some u → ∃ b o, p = some ⟨b, o, none⟩ ∧ w.cell? ⟨b, o + j, none⟩ = some u := by
  have key : ∀ i, i < l.length → ∃ c : PC, (∀ (hi : i < l.length), PtIn wb c (l[i]'hi)) ∧ ∃ b o, p = some ⟨b, o, none⟩ ∧ Cells6 w b (o + i * 6) c := fun i hi => by
    obtain ⟨b, o, c, h1, h2, h3⟩ := h.get i hi
    exact ⟨c, fun _ => h3, b, o, h1, h2⟩
  obtain ⟨F, hF⟩ := choose_lt (α := PC) key
  have hlen : ((List.range l.length).map fun i => (F i, (l[i]?).getD default)).length = l.length := by simp
  refine ⟨(List.range l.length).map fun i => (F i, (l[i]?).getD default), ?_, ?_, ?_⟩
  · apply List.ext_getElem
    · simp
    · intro i h1 h2
      simp [h2]
  · intro x hx
    obtain ⟨i, hi, rfl⟩ := List.mem_map.1 hx
    have hi2 : i < l.length := by simpa using hi
    have := (hF i hi2).1 hi2
    simpa [hi2] using this
  · intro j u hj
    have hjl : j < l.length * 6 := by
      have := (List.getElem?_eq_some_iff.1 hj).1
      rw [rowV_len, hlen] at this
      exact this
    have hi : j / 6 < l.length := by omega
    have hm : j % 6 < 6 := by omega
    obtain ⟨b, o, hp, hc⟩ := (hF (j / 6) hi).2
    have e := rowV_get ((List.range l.length).map fun i => (F i, (l[i]?).getD default)) (j / 6) (by rw [hlen]; exact hi) (j % 6) hm
    rw [show j / 6 * 6 + j % 6 = j by omega, hj] at e
    refine ⟨b, o, hp, ?_⟩
    have hje : o + j = o + j / 6 * 6 + j % 6 := by omega
    rw [hje]
    obtain ⟨c0, c1, c2, c3, c4, c5⟩ := hc
    have e2 : some u = (F (j / 6)).vals[j % 6]? := by simpa using e
    have hcase : j % 6 = 0 ∨ j % 6 = 1 ∨ j % 6 = 2 ∨ j % 6 = 3 ∨ j % 6 = 4 ∨ j % 6 = 5 := by omega
    rcases hcase with hh | hh | hh | hh | hh | hh <;> rw [hh] at e2 ⊢ <;> simp only [PC.vals, List.getElem?_cons_zero, List.getElem?_cons_succ] at e2
    · rw [e2]; exact c0
    · rw [e2]; exact c1
    · rw [e2]; exact c2
    · rw [e2]; exact c3
    · rw [e2]; exact c4
    · rw [e2]; exact c5
theorem vals_one (c : PC) : ∀ u ∈ c.vals, u.oneCell' = true := by
  intro u hu
  simp only [PC.vals, List.mem_cons, List.not_mem_nil, or_false] at hu
  rcases hu with rfl | rfl | rfl | rfl | rfl | rfl <;> rfl
theorem rowV_one (L : List (PC × Pt)) : ∀ u ∈ rowV L, u.oneCell' = true := by
  intro u hu
  obtain ⟨x, _, hx⟩ := List.mem_flatMap.1 hu
  exact vals_one _ _ hx
theorem infos26 : (Try.prog.info? 26).map (fun i => (i.zero, i.size, i.bytes)) = some (some (.agg #[.int .i64 0, .int .i64 0, .int .i64 0, .int .i64 0, .string { data := #[] }, .slice none 0 0]), 6, 72) := by kernel_rfl
theorem slice23 : Try.prog.underlying 23 = some (.slice 26) := by kernel_rfl
theorem info_parts {t : TypeId} {z : Option Value} {n b : Nat} (h : (Try.prog.info? t).map (fun i => (i.zero, i.size, i.bytes)) = some (z, n, b)) : ∃ i, Try.prog.info? t = some i ∧ i.zero = z ∧ i.size = n ∧ i.bytes = b := by
  cases hi : Try.prog.info? t with
  | none => rw [hi] at h; cases h
  | some i =>
    rw [hi] at h
    simp only [Option.map_some, Option.some.injEq, Prod.mk.injEq] at h
    exact ⟨i, rfl, h.1, h.2.1, h.2.2⟩
/-- A row is put behind one of one's own. -/
theorem run_append_row {wb w : World} {base : Nat} {v : Value} {L : List (PC × Pt)} (ho : OwnP wb w base v L) {p : Option Addr} {l : List Pt} {cap : Nat} (hr : RowAt wb w p l) (hz : p = none → l.length = 0 ∧ cap = 0) (hl : L.length + l.length ≤ 1000000) (hbase : base ≤ w.heap.size) (ty : TypeId) :
    ∃ v' w' L2, (Builtin.append_ #[23, 23] ty #[v, .slice p l.length cap]).run Try.prog w = .ok v' w' ∧ OwnP wb w' base v' (L ++ L2) ∧ L2.map (·.2) = l ∧ w.grownBy w' v.ownBlock := by
  obtain ⟨i0, hi0, hzz0, hzz1, hzz2⟩ := info_parts infos26
  cases p with
  | none =>
    obtain ⟨h1, h2⟩ := hz rfl
    have : l = [] := List.eq_nil_of_length_eq_zero h1
    subst this
    subst h2
    exact ⟨v, w, [], run_append_owned_none (P := Try.prog) (w := w) base 23 ty 26 i0 6 slice23 hi0 v _ _ ho.row, by simpa using ho, rfl, ⟨rfl, rfl, rfl, Nat.le_refl _, fun _ _ _ => rfl⟩⟩
  | some ad =>
    obtain ⟨L2, hL2, hP2, hc2⟩ := hr.list
    have hlen : L2.length = l.length := by rw [← hL2]; simp
    have hnews : ∀ j u, (rowV L2)[j]? = some u → w.cell? (ad.add j) = some u := fun j u hj => by
      obtain ⟨b, o, e, hc⟩ := hc2 j u hj
      cases e
      rw [add_at]
      exact hc
    obtain ⟨v', w', h1, h2, h3, _, _⟩ := run_append_own_at (P := Try.prog) w base 23 ty 26 i0 _ 6 72 slice23 hi0 hzz0 hzz1 hzz2 rfl (by decide) v L.length (rowV L) ho.row ad l.length cap (rowV L2) (by rw [rowV_len, hlen]) hnews (rowV_one L2) (by unfold maxLen; omega) (by omega) hbase
    refine ⟨v', w', L2, h1, ⟨?_, fun x hx => ?_⟩, hL2, h3⟩
    · rw [rowV_app, List.length_append, hlen]
      exact h2
    · rcases List.mem_append.1 hx with h | h
      · exact ho.els x h
      · exact hP2 x h
theorem wpList_append_row {ops : Array Oper} {rest : List Oper} {op : Oper} {a : Act} {Q : Exit → Act → World → Prop} (hgd : op.guard = none) (s x : Operand) (hop : op.op = .call { callee := .builtin .append, args := #[s, x], argTypes := #[23, 23] })
    {wb w : World} {base : Nat} {v : Value} {L : List (PC × Pt)} (ho : OwnP wb w base v L) {p : Option Addr} {l : List Pt} {cap : Nat} (hr : RowAt wb w p l) (hz : p = none → l.length = 0 ∧ cap = 0) (hl : L.length + l.length ≤ 1000000) (hbase : base ≤ w.heap.size) (hs : a.eval s = v) (hx : a.eval x = .slice p l.length cap)
    (h : ∀ v' w' L2, Hid (OwnP wb w' base v' (L ++ L2)) → Hid (L2.map (·.2) = l) → Hid (w.grownBy w' v.ownBlock) → wpList Try.prog ops Q rest (a.put op.dst v') w') : wpList Try.prog ops Q (op :: rest) a w := by
  refine wpList_plain hgd fun K hK => ?_
  obtain ⟨v', w', L2, hrun, h2, h3, h4⟩ := run_append_row ho hr hz hl hbase op.type
  unfold Oper.wp execOp
  simp only [hop, resolve, invoke, builtin, Sem.run_bind, Sem.run_pure, Result.andThen_ok, List.map_toArray, List.map_cons, List.map_nil, hs, hx, hrun]
  exact hK _ _ (h v' w' L2 h2 h3 h4)
theorem OwnP.nil (wb w : World) (base : Nat) : OwnP wb w base (.slice none 0 0) [] := ⟨World.ownsRow_nil _ _ _ _, fun _ hx => by cases hx⟩
theorem OwnP.below {wb w w' : World} {base : Nat} {v : Value} {L : List (PC × Pt)} (h : OwnP wb w base v L) (hb : Below w.heap.size w w') : OwnP wb w' base v L := by
  refine ⟨?_, h.els⟩
  obtain ⟨q1, q2⟩ := h.row
  refine ⟨q1, ?_⟩
  rcases q2 with q2 | ⟨g, cap, cur, qv, qg, qh, qq⟩
  · exact .inl q2
  · exact .inr ⟨g, cap, cur, qv, qg, (hb.block g (Array.getElem?_eq_some_iff.1 qh).1).trans qh, qq⟩
/-- What a row asks for behind a first value that is as h asks. -/
def restP (x : Pt) (r : List Pt) (h : Pt) : List Pt × Bool := if (bareP x).k = 0 then (List.replicate h.kids.length Pt.any ++ r, true) else ((bareP x).kids ++ r, alikeP (bareP x) h)
inductive RestPost (wb : World) (R : List Pt × Bool) (w : World) (e : Ending) (w' : World) : Prop
  | mk (q : Option Addr) (cap : Nat) (he : e = .returned (.tuple #[.slice q R.1.length cap, .bool R.2])) (hc : R.1.length ≤ cap) (hR : RowAt wb w' q R.1) (hq : ∀ b, q = some b → w.heap.size ≤ b.block ∧ b.block < w'.heap.size) (hb : Below w.heap.size w w') : RestPost wb R w e w'
end Go.Proofs.Ytjhfomfaddfklaa
