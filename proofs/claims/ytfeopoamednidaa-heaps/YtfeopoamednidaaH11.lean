/-
  The layer heap: things are moved, in plain words.
-/
import Derived.Test.YtfeopoamednidaaH10
namespace Go.Proofs.Ytfeopoamednidaa
open Go.RowKit Go.Deep
def mvC (f : Int → Int) (c : Cl) : Cl := if c.p = true then ⟨true, f c.n⟩ else c
theorem mvC_p (f : Int → Int) (c : Cl) : (mvC f c).p = c.p := by
  unfold mvC
  split
  · rename_i h
    exact h.symm
  · rfl
theorem mvC_n {f : Int → Int} {c : Cl} (h : c.p = true) : (mvC f c).n = f c.n := by unfold mvC; rw [if_pos h]
theorem mvC_num {f : Int → Int} {c : Cl} (h : c.p = false) : mvC f c = c := by unfold mvC; rw [if_neg (by simp [h])]
/-- All that is reached was moved, by f. -/
structure Moved (P P' : Doc) (ps : List Cl) (f : Int → Int) : Prop where
  inj : ∀ x y, Reach P ps x → Reach P ps y → f x = f y → x = y
  at_ : ∀ x t, Reach P ps x → P x = some t → P' (f x) = some ⟨t.kind, t.tag, t.fs.map (mvC f)⟩
theorem CellIso.moved {R : Int → Int → Prop} {a b : Cl} (h : CellIso R a b) {f : Int → Int} {S : Int → Int → Prop} (hS : a.p = true → R a.n b.n → S (f a.n) b.n) : CellIso S (mvC f a) b := by
  refine ⟨(mvC_p f a).trans h.1, fun e => ?_, fun e => ?_⟩
  · rw [mvC_p] at e
    rw [mvC_num e]
    exact h.2.1 e
  · rw [mvC_p] at e
    rw [mvC_n e]
    exact hS e (h.2.2 e)
theorem Iso.moved {P D : Doc} {R : Int → Int → Prop} {ps qs : List Cl} (h : Iso P D R ps qs) {P' : Doc} {f : Int → Int} (hm : Moved P P' ps f) : Iso P' D (fun x' y => ∃ x, Reach P ps x ∧ R x y ∧ x' = f x) (ps.map (mvC f)) qs := by
  refine ⟨⟨?_, ?_⟩, ?_, ?_⟩
  · rintro a y z ⟨x, hx, hR, rfl⟩ ⟨x', hx', hR', e⟩
    have := hm.inj x x' hx hx' e
    subst this
    exact h.one.l _ _ _ hR hR'
  · rintro a b z ⟨x, hx, hR, rfl⟩ ⟨x', hx', hR', rfl⟩
    rw [h.one.r _ _ _ hR hR']
  · refine ⟨by simp [h.roots.len], fun i hi hk => ?_⟩
    have hi' : i < ps.length := by simpa using hi
    rw [List.getElem_map]
    refine (h.roots.at_ i hi' hk).moved (fun e hR => ⟨_, Reach.root _ ?_, hR, rfl⟩)
    have := List.getElem_mem hi'
    rwa [show (ps[i]'hi') = ⟨true, (ps[i]'hi').n⟩ from by rw [← e]] at this
  · rintro x' y ⟨x, hx, hR, rfl⟩
    obtain ⟨t, u, h1, h2, hT⟩ := h.things x y hR
    refine ⟨_, u, hm.at_ x t hx h1, h2, hT.kind, hT.tag, by simp [hT.fs.len], fun i hi hk => ?_⟩
    have hi' : i < t.fs.length := by simpa using hi
    simp only [List.getElem_map]
    refine (hT.fs.at_ i hi' hk).moved (fun e hR' => ⟨_, Reach.field x _ t hx h1 ?_, hR', rfl⟩)
    have := List.getElem_mem hi'
    rwa [show (t.fs[i]'hi') = ⟨true, (t.fs[i]'hi').n⟩ from by rw [← e]] at this
end Go.Proofs.Ytfeopoamednidaa
