/-
  The layer heap: pairs of addresses: what goes with what, in plain words and in memory.
-/
import Derived.Test.YtfeopoamednidaaH7
namespace Go.Proofs.Ytfeopoamednidaa
open Go.RowKit Go.Deep
abbrev Prs := List (Int × Int)
/-- A relation that pairs one with one. -/
structure OneOne (R : Int → Int → Prop) : Prop where
  l : ∀ x y z, R x y → R x z → y = z
  r : ∀ x y z, R x z → R y z → x = y
def toF (T : Prs) : Int → Option Value := fun x => (T.find? (fun p => p.1 == x)).map fun p => .int .i64 p.2
def backF (T : Prs) : Int → Option Value := fun y => (T.find? (fun p => p.2 == y)).map fun p => .int .i64 p.1
theorem toF_in {R : Int → Int → Prop} (hR : OneOne R) {T : Prs} (hT : ∀ p ∈ T, R p.1 p.2) {x y : Int} (h : (x, y) ∈ T) : toF T x = some (.int .i64 y) := by
  unfold toF
  cases hf : T.find? (fun p => p.1 == x) with
  | none => exact absurd (List.find?_eq_none.1 hf _ h) (by simp)
  | some p =>
    have h1 := List.mem_of_find?_eq_some hf
    have h2 : p.1 = x := by simpa using List.find?_some hf
    have : p.2 = y := hR.l x _ _ (h2 ▸ hT p h1) (hT _ h)
    simp [this]
theorem backF_in {R : Int → Int → Prop} (hR : OneOne R) {T : Prs} (hT : ∀ p ∈ T, R p.1 p.2) {x y : Int} (h : (x, y) ∈ T) : backF T y = some (.int .i64 x) := by
  unfold backF
  cases hf : T.find? (fun p => p.2 == y) with
  | none => exact absurd (List.find?_eq_none.1 hf _ h) (by simp)
  | some p =>
    have h1 := List.mem_of_find?_eq_some hf
    have h2 : p.2 = y := by simpa using List.find?_some hf
    have : p.1 = x := hR.r _ _ y (h2 ▸ hT p h1) (hT _ h)
    simp [this]
theorem toF_out {R : Int → Int → Prop} (hR : OneOne R) {T : Prs} (hT : ∀ p ∈ T, R p.1 p.2) {x y : Int} (hxy : R x y) (h : (x, y) ∉ T) : toF T x = none := by
  unfold toF
  cases hf : T.find? (fun p => p.1 == x) with
  | none => rfl
  | some p =>
    have h1 := List.mem_of_find?_eq_some hf
    have h2 : p.1 = x := by simpa using List.find?_some hf
    have h3 : p.2 = y := hR.l x _ _ (h2 ▸ hT p h1) hxy
    have : p = (x, y) := by rw [← h2, ← h3]
    exact absurd (this ▸ h1) h
theorem backF_out {R : Int → Int → Prop} (hR : OneOne R) {T : Prs} (hT : ∀ p ∈ T, R p.1 p.2) {x y : Int} (hxy : R x y) (h : (x, y) ∉ T) : backF T y = none := by
  unfold backF
  cases hf : T.find? (fun p => p.2 == y) with
  | none => rfl
  | some p =>
    have h1 := List.mem_of_find?_eq_some hf
    have h2 : p.2 = y := by simpa using List.find?_some hf
    have h3 : p.1 = x := hR.r _ _ y (h2 ▸ hT p h1) hxy
    have : p = (x, y) := by rw [← h2, ← h3]
    exact absurd (this ▸ h1) h
theorem toF_snoc {T : Prs} {x y : Int} (h : toF T x = none) : upd (toF T) x (some (.int .i64 y)) = toF (T ++ [(x, y)]) := by
  have hn : T.find? (fun p => p.1 == x) = none := by
    unfold toF at h
    simpa using h
  funext z
  by_cases hz : z = x
  · subst hz
    rw [upd_same]
    unfold toF
    rw [List.find?_append, hn]
    simp
  · rw [upd_other _ _ hz]
    unfold toF
    rw [List.find?_append]
    have : [(x, y)].find? (fun p => p.1 == z) = none := by simp [Ne.symm hz]
    rw [this]
    simp
theorem backF_snoc {T : Prs} {x y : Int} (h : backF T y = none) : upd (backF T) y (some (.int .i64 x)) = backF (T ++ [(x, y)]) := by
  have hn : T.find? (fun p => p.2 == y) = none := by
    unfold backF at h
    simpa using h
  funext z
  by_cases hz : z = y
  · subst hz
    rw [upd_same]
    unfold backF
    rw [List.find?_append, hn]
    simp
  · rw [upd_other _ _ hz]
    unfold backF
    rw [List.find?_append]
    have : [(x, y)].find? (fun p => p.2 == z) = none := by simp [Ne.symm hz]
    rw [this]
    simp
/-! ### rows of pairs -/
def pV (p : Int × Int) : List Value := [.int .i64 p.1, .int .i64 p.2]
def pairsV (T : Prs) : List Value := T.flatMap pV
theorem pairsV_app (a b : Prs) : pairsV (a ++ b) = pairsV a ++ pairsV b := by simp [pairsV]
theorem pairsV_len (l : Prs) : (pairsV l).length = l.length * 2 := by
  induction l with
  | nil => rfl
  | cons x r ih =>
    have : pairsV (x :: r) = pV x ++ pairsV r := rfl
    rw [this, List.length_append, ih]
    simp [pV]
    omega
theorem pairsV_get : ∀ (l : Prs) (i : Nat) (hi : i < l.length) (j : Nat), j < 2 → (pairsV l)[i * 2 + j]? = (pV (l[i]'hi))[j]?
  | x :: r, 0, _, j, hj => by
    have : pairsV (x :: r) = pV x ++ pairsV r := rfl
    rw [this, Nat.zero_mul, Nat.zero_add, List.getElem?_append_left (by simp [pV]; omega)]
    rfl
  | x :: r, i + 1, hi, j, hj => by
    have : pairsV (x :: r) = pV x ++ pairsV r := rfl
    rw [this, List.getElem?_append_right (by simp [pV]; omega)]
    have e : (i + 1) * 2 + j - (pV x).length = i * 2 + j := by simp [pV]; omega
    rw [e, pairsV_get r i (by simpa using hi) j hj]
    rfl
def OwnP (w : World) (base : Nat) (v : Value) (l : Prs) : Prop := w.ownsRow base 61 2 v l.length (pairsV l)
/-- A row of pairs of one's own: where its pairs lie. -/
theorem OwnP.at {w : World} {base : Nat} {v : Value} {l : Prs} (h : OwnP w base v l) : ∃ q cap, v = .slice q l.length cap ∧ ∀ i (hi : i < l.length), ∃ b, q = some ⟨b, 0, none⟩ ∧ w.cell? ⟨b, i * 2, none⟩ = some (.int .i64 (l[i]'hi).1) ∧ w.cell? ⟨b, i * 2 + 1, none⟩ = some (.int .i64 (l[i]'hi).2) := by
  rcases h.2 with ⟨rfl, h0⟩ | ⟨g, cap, cur, rfl, h1, h2, h3, h4, h5, h6⟩
  · have : l = [] := List.eq_nil_of_length_eq_zero h0
    subst this
    exact ⟨none, 0, rfl, fun i hi => by cases hi⟩
  · refine ⟨some ⟨g, 0, none⟩, cap, rfl, fun i hi => ⟨g, rfl, ?_, ?_⟩⟩
    · have hc := World.ownsRow.cells (g := g) h rfl (i * 2 + 0) (.int .i64 (l[i]'hi).1) (by rw [pairsV_get l i hi 0 (by omega)]; rfl)
      rw [add_at] at hc
      simpa using hc
    · have hc := World.ownsRow.cells (g := g) h rfl (i * 2 + 1) (.int .i64 (l[i]'hi).2) (by rw [pairsV_get l i hi 1 (by omega)]; rfl)
      rw [add_at] at hc
      simpa [Nat.add_assoc] using hc
theorem infos60 : (Try.prog.info? 61).map (fun i => (i.zero, i.size, i.bytes)) = some (some (.agg #[.int .i64 0, .int .i64 0]), 2, 16) := by kernel_rfl
theorem slice58 : Try.prog.underlying 59 = some (.slice 61) := by kernel_rfl
theorem run_append_pair {w : World} {base : Nat} {v : Value} {L : Prs} (ho : OwnP w base v L) (x y : Int) {g : Nat} (hg : w.heap[g]? = some (.cells #[.int .i64 x, .int .i64 y] 61)) (hl : (L.length + 1) * 16 ≤ 140737488355328) (hbase : base ≤ w.heap.size) (ty : TypeId) :
    ∃ v' w', (Builtin.append_ #[59, 59] ty #[v, .slice (some ⟨g, 0, none⟩) 1 1]).run Try.prog w = .ok v' w' ∧ OwnP w' base v' (L ++ [(x, y)]) ∧ w.grownBy w' v.ownBlock ∧ (v'.ownBlock = v.ownBlock ∨ v'.ownBlock = some w.heap.size) := by
  obtain ⟨i0, hi0, hzz0, hzz1, hzz2⟩ := info_parts infos60
  have hnews : ∀ j u, (pairsV [(x, y)])[j]? = some u → w.cell? ((⟨g, 0, none⟩ : Addr).add j) = some u := fun j u hj => by
    rw [add_at]
    simp only [World.cell?, hg, Nat.zero_add]
    match j, hj with
    | 0, hj => exact hj
    | 1, hj => exact hj
    | k + 2, hj => simp [pairsV, pV] at hj
  obtain ⟨v', w', h1, h2, h3, _, h5⟩ := run_append_own_at (P := Try.prog) w base 59 ty 61 i0 _ 2 16 slice58 hi0 hzz0 hzz1 hzz2 rfl (by decide) v L.length (pairsV L) ho ⟨g, 0, none⟩ 1 1 (pairsV [(x, y)]) (by rw [pairsV_len]; rfl) hnews (by intro u hu; simp [pairsV, pV] at hu; rcases hu with rfl | rfl <;> rfl) (by unfold maxLen; omega) hl hbase
  refine ⟨v', w', h1, ?_, h3, h5⟩
  unfold OwnP
  rw [pairsV_app, List.length_append]
  exact h2
end Go.Proofs.Ytfeopoamednidaa
