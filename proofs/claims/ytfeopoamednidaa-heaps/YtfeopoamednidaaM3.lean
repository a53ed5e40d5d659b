/-
  Things are moved: memory and plain words together; one thing is moved.
-/
import Derived.Test.YtfeopoamednidaaM2
namespace Go.Proofs.Ytfeopoamednidaa
open Go.RowKit Go.Deep Go.IntWalk
/-- Things are being moved: V were; the first i words of these have been gone through. -/
structure Mvg (w : World) (mb : Nat) (cells a tf : Int) (ts : List Th) (rs : List Cl) (fv tv : Value) (V : List Int) (i : Nat) : Prop where
  mem : MvM w mb cells a tf fv tv (encL (mkV (docOf a ts) V) a ts) (scan (docOf a ts) tf V i)
  nd : V.Nodup
  there : ∀ x ∈ V, (docOf a ts x).isSome = true
  rch : ∀ x ∈ V, Reach (docOf a ts) rs x
  sn : Sn (docOf a ts) V i
  le : i ≤ (raw (docOf a ts) V).length
theorem Mvg.kp {X : List Nat} {w w' : World} {mb : Nat} {cells a tf : Int} {ts : List Th} {rs : List Cl} {fv tv : Value} {V : List Int} {i : Nat} (h : Mvg w mb cells a tf ts rs fv tv V i) (hk : Kp X w w') (h1 : mb ∉ X) (h2 : ∀ k, fv.ownBlock = some k → k ∉ X) (h3 : ∀ k, tv.ownBlock = some k → k ∉ X) : Mvg w' mb cells a tf ts rs fv tv V i :=
  ⟨h.mem.kp hk h1 h2 h3, h.nd, h.there, h.rch, h.sn, h.le⟩
theorem Mvg.small {w : World} {mb : Nat} {cells a tf : Int} {ts : List Th} {rs : List Cl} {fv tv : Value} {V : List Int} {i : Nat} (h : Mvg w mb cells a tf ts rs fv tv V i) : total ts ≤ 1000000 := by
  have := h.mem.flen
  rwa [encL_len] at this
/-- V was moved, and maybe x. -/
inductive Grow (V : List Int) (x : Int) : List Int → Prop
  | same (h : x ∈ V) : Grow V x V
  | more (h : x ∉ V) : Grow V x (V ++ [x])
theorem Grow.has {V W : List Int} {x : Int} (h : Grow V x W) : x ∈ W := by
  cases h with
  | same h => exact h
  | more h => simp
theorem Grow.sub {V W : List Int} {x : Int} (h : Grow V x W) : ∀ y ∈ V, y ∈ W := by
  cases h with
  | same h => exact fun y hy => hy
  | more h => exact fun y hy => by simp [hy]
theorem Grow.same_fw {V W : List Int} {x : Int} (h : Grow V x W) (P : Doc) (tf : Int) : ∀ y ∈ V, fw P tf W y = fw P tf V y := by
  cases h with
  | same h => exact fun y hy => rfl
  | more h => exact fun y hy => by unfold fw; rw [pos_old P [x] V hy]
inductive MgPost (w : World) (mb : Nat) (cells a tf : Int) (ts : List Th) (rs : List Cl) (fv tv : Value) (V : List Int) (i : Nat) (x : Int) : Ending → World → Prop
  | mk (V' : List Int) (tv' : Value) (w' : World) (hg : Grow V x V') (h : Mvg w' mb cells a tf ts rs fv tv' V' i) (hk : Kp ([mb] ++ fv.ownBlock.toList ++ tv.ownBlock.toList) w w') (hf : tv'.ownBlock = tv.ownBlock ∨ ∃ g, tv'.ownBlock = some g ∧ w.heap.size ≤ g) :
    MgPost w mb cells a tf ts rs fv tv V i x (.returned (.int .i64 (fw (docOf a ts) tf V' x))) w'
theorem mg_thing (w : World) (mb : Nat) (cells a tf : Int) (ts : List Th) (rs : List Cl) (fv tv : Value) (V : List Int) (i : Nat) (h : Mvg w mb cells a tf ts rs fv tv V i) (x : Int) (hx : (docOf a ts x).isSome = true) (hr : Reach (docOf a ts) rs x) :
    Calls Try.prog 31 #[.pointer (some ⟨mb, 0, none⟩), .int .i64 x] w fun e w' => MgPost w mb cells a tf ts rs fv tv V i x e w' := by
  obtain ⟨t, ht⟩ := Option.isSome_iff_exists.1 hx
  obtain ⟨l, r, hts, hxe⟩ := doc_split _ _ _ ht
  have hd := enc_hd (mkV (docOf a ts) V) a l t r
  rw [← hts, ← hxe] at hd
  have htot := h.small
  have hthP : thP (docOf a ts) x = t := by unfold thP; rw [ht]; rfl
  by_cases hV : x ∈ V
  · have hm : mkV (docOf a ts) V x = (pos (docOf a ts) V x : Int) + 1 := by unfold mkV; rw [if_pos hV]
    have hpl := pos_lt (docOf a ts) V hV
    have hcl := cells_le h.nd h.there
    rw [raw_len] at hpl
    have := mthing_old w mb cells a tf fv tv _ _ h.mem (total l) _ hd (by simp only [hdw, hm]; omega) (by simp only [hdw, hm]; omega)
    rw [← hxe] at this
    refine Calls.mono this ?_
    intro e w' he
    cases he with
    | old _ w' hw =>
      have e : tf + (hdw (mkV (docOf a ts) V x) t).moved - 1 = fw (docOf a ts) tf V x := by simp only [hdw, hm, fw]; omega
      rw [e]
      exact MgPost.mk V tv w' (Grow.same hV) (h.kp (Kp.of_below (X := []) hw) (by simp) (by simp) (by simp)) (Kp.of_below hw) (Or.inl rfl)
    | new h0 => simp only [hdw, hm] at h0; omega
  · have hm : mkV (docOf a ts) V x = 0 := by unfold mkV; rw [if_neg hV]
    have hnd : (V ++ [x]).Nodup := List.nodup_append.2 ⟨h.nd, by simp, by intro a ha b hb; simp at hb; subst hb; exact fun e => hV (e ▸ ha)⟩
    have hth : ∀ y ∈ V ++ [x], (docOf a ts y).isSome = true := fun y hy => by
      rcases List.mem_append.1 hy with hy | hy
      · exact h.there y hy
      · simp at hy; subst hy; exact hx
    have hcl := cells_le hnd hth
    rw [cellsT_snoc] at hcl
    have hfs : fsOf (docOf a ts) x = t.fs := by unfold fsOf; rw [ht]; rfl
    have hsl : (scan (docOf a ts) tf V i).length = cellsT (docOf a ts) V := by rw [scan_len, raw_len]
    rw [hfs] at hcl
    have := mthing_new w mb cells a tf fv tv _ _ h.mem (total l) _ hd hm (by rw [hsl]; simp only [hdw, Int.toNat_natCast]; omega)
    rw [← hxe] at this
    refine Calls.mono this ?_
    intro e w' he
    cases he with
    | old h0 => exact absurd hm h0
    | new _ tv' w' hM hk hf =>
      have e : tf + ((scan (docOf a ts) tf V i).length : Int) = fw (docOf a ts) tf (V ++ [x]) x := by unfold fw; rw [pos_new _ V hV, scan_len]
      rw [e]
      refine MgPost.mk (V ++ [x]) tv' w' (Grow.more hV) ⟨?_, hnd, hth, fun y hy => ?_, h.sn.more h.le x, by rw [raw_snoc, List.length_append]; have := h.le; omega⟩ hk hf
      · have e1 : (encL (mkV (docOf a ts) V) a ts).set (total l) { hdw (mkV (docOf a ts) V x) t with moved := ((scan (docOf a ts) tf V i).length : Int) + 1 } = encL (mkV (docOf a ts) (V ++ [x])) a ts := by
          have e2 := enc_mark (mkV (docOf a ts) V) a l t r ((raw (docOf a ts) V).length + 1)
          rw [← hts, ← hxe] at e2
          rw [mkV_snoc _ V hV, ← e2, scan_len]
          rfl
        have e3 : ((encL (mkV (docOf a ts) V) a ts).drop (total l)).take ((hdw (mkV (docOf a ts) V x) t).n.toNat + 1) = encT 0 (thP (docOf a ts) x) := by
          have e4 := enc_words (mkV (docOf a ts) V) a l t r
          rw [← hts, ← hxe, hm] at e4
          rw [hthP, ← e4]
          simp only [hdw, Int.toNat_natCast]
        rw [scan_more tf h.sn h.le x, ← e3, ← e1]
        exact hM
      · rcases List.mem_append.1 hy with hy | hy
        · exact h.rch y hy
        · simp at hy; subst hy; exact hr
end Go.Proofs.Ytfeopoamednidaa
