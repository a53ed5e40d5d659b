/-
  The layer heap: the two sides go together, in plain words.
-/
import Derived.Test.YtfeopoamednidaaH9
namespace Go.Proofs.Ytfeopoamednidaa
open Go.RowKit Go.Deep
/-- Two cells say the same. -/
def CellIso (R : Int → Int → Prop) (a b : Cl) : Prop := a.p = b.p ∧ (a.p = false → a.n = b.n) ∧ (a.p = true → R a.n b.n)
/-- Rows of cells say the same. -/
structure RowIso (R : Int → Int → Prop) (l k : List Cl) : Prop where
  len : l.length = k.length
  at_ : ∀ i (hi : i < l.length) (hk : i < k.length), CellIso R (l[i]'hi) (k[i]'hk)
structure ThIso (R : Int → Int → Prop) (t u : Th) : Prop where
  kind : t.kind = u.kind
  tag : t.tag = u.tag
  fs : RowIso R t.fs u.fs
/-- The two sides go together. -/
structure Iso (P D : Doc) (R : Int → Int → Prop) (ps qs : List Cl) : Prop where
  one : OneOne R
  roots : RowIso R ps qs
  things : ∀ x y, R x y → ∃ t u, P x = some t ∧ D y = some u ∧ ThIso R t u
theorem CellIso.mono {R S : Int → Int → Prop} {a b : Cl} (h : CellIso R a b) (hS : a.p = true → R a.n b.n → S a.n b.n) : CellIso S a b := ⟨h.1, h.2.1, fun e => hS e (h.2.2 e)⟩
theorem RowIso.mem {R : Int → Int → Prop} {l k : List Cl} (h : RowIso R l k) {a : Cl} (ha : a ∈ l) : ∃ b ∈ k, CellIso R a b := by
  obtain ⟨i, hi, rfl⟩ := List.mem_iff_getElem.1 ha
  exact ⟨k[i]'(h.len ▸ hi), List.getElem_mem _, h.at_ i hi _⟩
theorem RowIso.mem' {R : Int → Int → Prop} {l k : List Cl} (h : RowIso R l k) {b : Cl} (hb : b ∈ k) : ∃ a ∈ l, CellIso R a b := by
  obtain ⟨i, hi, rfl⟩ := List.mem_iff_getElem.1 hb
  exact ⟨l[i]'(h.len ▸ hi), List.getElem_mem _, h.at_ i _ hi⟩
theorem RowIso.snoc {R : Int → Int → Prop} {l k : List Cl} (h : RowIso R l k) {a b : Cl} (hab : CellIso R a b) : RowIso R (l ++ [a]) (k ++ [b]) := by
  refine ⟨by simp [h.len], fun i hi hk => ?_⟩
  have hlen := h.len
  by_cases h' : i < l.length
  · rw [List.getElem_append_left h', List.getElem_append_left (by omega)]
    exact h.at_ i h' (by omega)
  · have e : i = l.length := by simp at hi; omega
    subst e
    simp [hlen]
    exact hab
theorem RowIso.set {R : Int → Int → Prop} {l k : List Cl} (h : RowIso R l k) (j : Nat) {a b : Cl} (hab : CellIso R a b) : RowIso R (l.set j a) (k.set j b) := by
  refine ⟨by simp [h.len], fun i hi hk => ?_⟩
  rw [List.getElem_set, List.getElem_set]
  by_cases e : j = i
  · rw [if_pos e, if_pos e]
    exact hab
  · rw [if_neg e, if_neg e]
    exact h.at_ i (by simpa using hi) (by simpa using hk)
theorem RowIso.mono {R S : Int → Int → Prop} {l k : List Cl} (h : RowIso R l k) (hS : ∀ x y, ⟨true, x⟩ ∈ l → R x y → S x y) : RowIso S l k :=
  ⟨h.len, fun i hi hk => (h.at_ i hi hk).mono (fun e hR => hS _ _ (by
    have := List.getElem_mem hi
    rwa [show (l[i]'hi) = ⟨true, (l[i]'hi).n⟩ from by rw [← e]] at this) hR)⟩
theorem RowIso.zeros (R : Int → Int → Prop) (n : Nat) : RowIso R (List.replicate n default) (List.replicate n default) :=
  ⟨rfl, fun i hi hk => by
    rw [List.getElem_replicate]
    exact ⟨rfl, fun _ => rfl, fun e => by cases e⟩⟩
theorem RowIso.drop {R : Int → Int → Prop} {l k : List Cl} (h : RowIso R l k) (j : Nat) : RowIso R (l.eraseIdx j) (k.eraseIdx j) := by
  have hl := h.len
  refine ⟨by simp [List.length_eraseIdx, hl], fun i hi hk => ?_⟩
  rw [List.getElem_eraseIdx, List.getElem_eraseIdx]
  split
  · exact h.at_ _ _ _
  · exact h.at_ _ _ _
/-! ### what is reached -/
theorem Iso.reach {P D : Doc} {R : Int → Int → Prop} {ps qs : List Cl} (h : Iso P D R ps qs) {x : Int} (hx : Reach P ps x) : ∃ y, R x y ∧ Reach D qs y := by
  induction hx with
  | root b hb =>
    obtain ⟨⟨cp, cn⟩, hc, h1, _, h3⟩ := h.roots.mem hb
    simp only at h1 h3
    subst h1
    exact ⟨cn, h3 (by first | trivial | rfl), Reach.root cn hc⟩
  | field a b t _ ht hf ih =>
    obtain ⟨y, hR, hy⟩ := ih
    obtain ⟨t', u, e1, e2, hth⟩ := h.things a y hR
    rw [ht] at e1
    cases e1
    obtain ⟨⟨cp, cn⟩, hc, h1, _, h3⟩ := hth.fs.mem hf
    simp only at h1 h3
    subst h1
    exact ⟨cn, h3 (by first | trivial | rfl), Reach.field y cn u hy e2 hc⟩
theorem Iso.reach' {P D : Doc} {R : Int → Int → Prop} {ps qs : List Cl} (h : Iso P D R ps qs) {y : Int} (hy : Reach D qs y) : ∃ x, R x y ∧ Reach P ps x := by
  induction hy with
  | root b hb =>
    obtain ⟨⟨cp, cn⟩, hc, h1, _, h3⟩ := h.roots.mem' hb
    simp only at h1 h3
    subst h1
    exact ⟨cn, h3 rfl, Reach.root cn hc⟩
  | field a b t _ ht hf ih =>
    obtain ⟨x, hR, hx⟩ := ih
    obtain ⟨t', u, e1, e2, hth⟩ := h.things x a hR
    rw [ht] at e2
    cases e2
    obtain ⟨⟨cp, cn⟩, hc, h1, _, h3⟩ := hth.fs.mem' hf
    simp only at h1 h3
    subst h1
    exact ⟨cn, h3 rfl, Reach.field x cn t' hx e1 hc⟩
theorem cellsT_erase (D : Doc) (W : List Int) {b : Int} (h : b ∈ W) : cellsT D W = 1 + (fsOf D b).length + cellsT D (W.erase b) := by
  have h1 := fieldsT_erase D W h
  have h2 := List.length_erase_of_mem h
  have h3 : 0 < W.length := List.length_pos_of_mem h
  rw [cellsT_eq, cellsT_eq]
  omega
/-- Both sides' cells are as many. -/
theorem cells_iso {P D : Doc} {R : Int → Int → Prop} (hone : OneOne R) (hth : ∀ x y, R x y → ∃ t u, P x = some t ∧ D y = some u ∧ ThIso R t u) : ∀ (V W : List Int), V.Nodup → W.Nodup → (∀ x ∈ V, ∃ y ∈ W, R x y) → (∀ y ∈ W, ∃ x ∈ V, R x y) → cellsT P V = cellsT D W
  | [], W, _, _, _, h2 => by
    cases W with
    | nil => rfl
    | cons y W =>
      obtain ⟨x, hx, _⟩ := h2 y (by simp)
      cases hx
  | x :: V, W, hn, hm, h1, h2 => by
    obtain ⟨y, hy, hR⟩ := h1 x (by simp)
    have hn' := List.nodup_cons.1 hn
    obtain ⟨t, u, e1, e2, hT⟩ := hth x y hR
    have hlen : (fsOf P x).length = (fsOf D y).length := by
      unfold fsOf
      rw [e1, e2]
      exact hT.fs.len
    rw [cellsT, cellsT_erase D W hy, hlen]
    congr 1
    refine cells_iso hone hth V (W.erase y) hn'.2 (hm.erase y) (fun z hz => ?_) (fun z hz => ?_)
    · obtain ⟨y', hy', hR'⟩ := h1 z (by simp [hz])
      refine ⟨y', (List.mem_erase_of_ne (fun e => ?_)).2 hy', hR'⟩
      subst e
      have := hone.r z x y' hR' hR
      subst this
      exact hn'.1 hz
    · have hne : z ≠ y := fun e => by
        subst e
        exact absurd hz (hm.not_mem_erase)
      obtain ⟨x', hx', hR'⟩ := h2 z (List.mem_of_mem_erase hz)
      rcases List.mem_cons.1 hx' with rfl | hx'
      · exact absurd (hone.l x' z y hR' hR) hne
      · exact ⟨x', hx', hR'⟩
/-- How many cells are reached: both sides say the same. -/
theorem Iso.cells {P D : Doc} {R : Int → Int → Prop} {ps qs : List Cl} (h : Iso P D R ps qs) {V W : List Int} (hV : V.Nodup) (hW : W.Nodup) (h1 : ∀ x, x ∈ V ↔ Reach P ps x) (h2 : ∀ y, y ∈ W ↔ Reach D qs y) : cellsT P V = cellsT D W := by
  refine cells_iso h.one h.things V W hV hW (fun x hx => ?_) (fun y hy => ?_)
  · obtain ⟨y, hR, hy⟩ := h.reach ((h1 x).1 hx)
    exact ⟨y, (h2 y).2 hy, hR⟩
  · obtain ⟨x, hR, hx⟩ := h.reach' ((h2 y).1 hy)
    exact ⟨x, (h1 x).2 hx, hR⟩
/-- Pairs are no more than the things. -/
theorem pairs_len {R : Int → Int → Prop} (hone : OneOne R) {T : Prs} (hT : ∀ p ∈ T, R p.1 p.2) (hn : T.Nodup) {ks : List Int} (hk : ∀ x y, R x y → y ∈ ks) : T.length ≤ ks.length := by
  have h : (T.map Prod.snd).Nodup := by
    clear hk
    induction T with
    | nil => simp
    | cons p T ih =>
      have hn' := List.nodup_cons.1 hn
      rw [List.map_cons, List.nodup_cons]
      refine ⟨fun hm => ?_, ih (fun q hq => hT q (by simp [hq])) hn'.2⟩
      obtain ⟨q, hq, e⟩ := List.mem_map.1 hm
      have h1 := hT q (by simp [hq])
      have h2 := hT p (by simp)
      rw [e] at h1
      have h3 := hone.r _ _ _ h1 h2
      have : q = p := Prod.ext h3 e
      exact hn'.1 (this ▸ hq)
  have := len_sub (T.map Prod.snd) ks h (fun y hy => by
    obtain ⟨q, hq, e⟩ := List.mem_map.1 hy
    exact hk q.1 y (e ▸ hT q hq))
  simpa using this
/-! ### what steps do -/
theorem Iso.more {P D : Doc} {R : Int → Int → Prop} {ps qs : List Cl} (h : Iso P D R ps qs) {a b : Cl} (hab : CellIso R a b) : Iso P D R (ps ++ [a]) (qs ++ [b]) := ⟨h.one, h.roots.snoc hab, h.things⟩
theorem Iso.drop {P D : Doc} {R : Int → Int → Prop} {ps qs : List Cl} (h : Iso P D R ps qs) (j : Nat) : Iso P D R (ps.eraseIdx j) (qs.eraseIdx j) := ⟨h.one, h.roots.drop j, h.things⟩
/-- A field is set, on both sides. -/
theorem Iso.set {P D : Doc} {R : Int → Int → Prop} {ps qs : List Cl} (h : Iso P D R ps qs) {x y : Int} (hR : R x y) {t u : Th} (ht : P x = some t) (hu : D y = some u) (j : Nat) {a b : Cl} (hab : CellIso R a b) : Iso (upd P x (some ⟨t.kind, t.tag, t.fs.set j a⟩)) (upd D y (some ⟨u.kind, u.tag, u.fs.set j b⟩)) R ps qs := by
  refine ⟨h.one, h.roots, fun x' y' hR' => ?_⟩
  by_cases e : x' = x
  · subst e
    have e' := h.one.l x' y' y hR' hR
    subst e'
    rw [upd_same, upd_same]
    obtain ⟨t', u', e1, e2, hT⟩ := h.things x' y' hR'
    rw [ht] at e1
    rw [hu] at e2
    cases e1
    cases e2
    exact ⟨_, _, rfl, rfl, hT.kind, hT.tag, hT.fs.set j hab⟩
  · have e' : y' ≠ y := fun e' => by
      subst e'
      exact e (h.one.r _ _ _ hR' hR)
    rw [upd_other _ _ e, upd_other _ _ e']
    exact h.things x' y' hR'
/-- One thing more, on both sides; it is a root. -/
theorem Iso.made {P D : Doc} {R : Int → Int → Prop} {ps qs : List Cl} (h : Iso P D R ps qs) {x y : Int} (hx : ∀ z, ¬ R x z) (hy : ∀ z, ¬ R z y) (kind tag : Int) (n : Nat) :
    Iso (upd P x (some ⟨kind, tag, List.replicate n default⟩)) (upd D y (some ⟨kind, tag, List.replicate n default⟩)) (fun a b => R a b ∨ a = x ∧ b = y) (ps ++ [⟨true, x⟩]) (qs ++ [⟨true, y⟩]) := by
  have hone : OneOne (fun a b => R a b ∨ a = x ∧ b = y) := by
    constructor
    · rintro a b c (h1 | ⟨rfl, rfl⟩) (h2 | ⟨h2, h3⟩)
      · exact h.one.l _ _ _ h1 h2
      · subst h2; exact absurd h1 (hx _)
      · exact absurd h2 (hx _)
      · exact h3.symm
    · rintro a b c (h1 | ⟨rfl, rfl⟩) (h2 | ⟨h2, h3⟩)
      · exact h.one.r _ _ _ h1 h2
      · subst h3; exact absurd h1 (hy _)
      · exact absurd h2 (hy _)
      · exact h2.symm
  refine ⟨hone, RowIso.snoc (h.roots.mono (fun _ _ _ h => Or.inl h)) ⟨rfl, fun _ => by simp_all, fun _ => Or.inr ⟨rfl, rfl⟩⟩, ?_⟩
  rintro a b (hR | ⟨rfl, rfl⟩)
  · have e1 : a ≠ x := fun e => by subst e; exact hx _ hR
    have e2 : b ≠ y := fun e => by subst e; exact hy _ hR
    rw [upd_other _ _ e1, upd_other _ _ e2]
    obtain ⟨t, u, h1, h2, hT⟩ := h.things a b hR
    exact ⟨t, u, h1, h2, hT.kind, hT.tag, hT.fs.mono (fun _ _ _ h => Or.inl h)⟩
  · rw [upd_same, upd_same]
    exact ⟨_, _, rfl, rfl, rfl, rfl, RowIso.zeros _ n⟩
/-- What is not reached is forgotten. -/
theorem Iso.kept {P D : Doc} {R : Int → Int → Prop} {ps qs : List Cl} (h : Iso P D R ps qs) {W : List Int} (hW : ∀ y, y ∈ W ↔ Reach D qs y) : Iso P (keptD D W) (fun a b => R a b ∧ Reach D qs b) ps qs := by
  refine ⟨⟨fun _ _ _ h1 h2 => h.one.l _ _ _ h1.1 h2.1, fun _ _ _ h1 h2 => h.one.r _ _ _ h1.1 h2.1⟩, ?_, ?_⟩
  · refine ⟨h.roots.len, fun i hi hk => (h.roots.at_ i hi hk).mono (fun e hR => ⟨hR, Reach.root _ ?_⟩)⟩
    have h1 := (h.roots.at_ i hi hk).1
    have := List.getElem_mem hk
    rwa [show (qs[i]'hk) = ⟨true, (qs[i]'hk).n⟩ from by rw [← e, h1]] at this
  · rintro a b ⟨hR, hb⟩
    obtain ⟨t, u, h1, h2, hT⟩ := h.things a b hR
    refine ⟨t, u, h1, by unfold keptD; rw [if_pos ((hW b).2 hb)]; exact h2, hT.kind, hT.tag, hT.fs.len, fun i hi hk => (hT.fs.at_ i hi hk).mono (fun e hR' => ⟨hR', Reach.field b _ u hb h2 ?_⟩)⟩
    have h3 := (hT.fs.at_ i hi hk).1
    have := List.getElem_mem hk
    rwa [show (u.fs[i]'hk) = ⟨true, (u.fs[i]'hk).n⟩ from by rw [← e, h3]] at this
end Go.Proofs.Ytfeopoamednidaa
