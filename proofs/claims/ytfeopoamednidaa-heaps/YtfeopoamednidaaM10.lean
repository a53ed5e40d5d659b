/-
  What is there behind a look for what is not reached; Make.
-/
import Derived.Test.YtfeopoamednidaaM9
namespace Go.Proofs.Ytfeopoamednidaa
open Go.RowKit Go.Deep Go.IntWalk
/-- What a thing of the program's heap may be. -/
def okTh (t : Th) : Prop := 0 ≤ t.kind ∧ t.kind ≤ 4 ∧ 0 ≤ t.tag ∧ t.tag ≤ 65535 ∧ ∀ c ∈ t.fs, wfC c
theorem pos_le (P : Doc) (x : Int) : ∀ V : List Int, pos P V x ≤ (raw P V).length
  | [] => Nat.zero_le _
  | z :: V => by
    have e : raw P (z :: V) = encT 0 (thP P z) ++ raw P V := rfl
    have := pos_le P x V
    rw [pos, e, List.length_append, encT_len]
    split <;> omega
theorem mvC_wf {P : Doc} {tf : Int} {V : List Int} (ht : 0 < tf ∧ tf ≤ 9000000000000000000) (hl : (raw P V).length ≤ 1000000) {c : Cl} (hc : wfC c) : wfC (mvC (fw P tf V) c) := by
  unfold mvC
  split
  · have := pos_le P c.n V
    unfold wfC fw
    exact i64_wf (by simp only; omega)
  · exact hc
/-- The heap as it stands now: as it was, or moved. -/
structure Gc (w : World) (hb : Nat) (cells first : Int) (v : Value) (ts : List Th) (rs : List Cl) (base : Nat) (rv : Value) (w1 : World) (first1 : Int) (v1 : Value) (ts1 : List Th) (rs1 : List Cl) : Prop where
  hp : HpO w1 hb cells first1 v1 (encL (fun _ => 0) first1 ts1)
  r : OwnC w1 base rv rs1
  cl : Closed first1 ts1
  ro : RootsOk (docOf first1 ts1) rs1
  k : Kp ([hb] ++ v.ownBlock.toList ++ rv.ownBlock.toList) w w1
  f : v1.ownBlock = v.ownBlock ∨ ∃ g, v1.ownBlock = some g ∧ w.heap.size ≤ g
  lt : first1 ≤ first + 1000000
  len : rs1.length = rs.length
  oth : (∀ t ∈ ts, okTh t) → ∀ t ∈ ts1, okTh t
  wfr : (∀ c ∈ rs, wfC c) → ∀ c ∈ rs1, wfC c
  iso : ∀ D R qs, Iso (docOf first ts) D R rs qs → ∃ R1, Iso (docOf first1 ts1) D R1 rs1 qs ∧ ∀ x y, R1 x y → ∃ z, R z y
theorem Gc.same {w : World} {hb : Nat} {cells first : Int} {v : Value} {ts : List Th} {rs : List Cl} {base : Nat} {rv : Value} {w1 : World} (h : HpO w hb cells first v (encL (fun _ => 0) first ts)) (hr : OwnC w base rv rs) (hc : Closed first ts) (hro : RootsOk (docOf first ts) rs) (hw : Below w.heap.size w w1) : Gc w hb cells first v ts rs base rv w1 first v ts rs :=
  ⟨h.kp (Kp.of_below (X := []) hw) (by simp) (by simp), hr.keep (fun k hk => hw.block k (hr.block k hk).2), hc, hro, Kp.of_below hw, Or.inl rfl, by omega, rfl, (fun h => h), (fun h => h), fun D R qs hi => ⟨R, hi, fun x y h => ⟨x, h⟩⟩⟩
theorem total_map (P : Doc) (f : Int → Int) (V : List Int) : total (V.map (fun x => mvT f (thP P x))) = cellsT P V := by
  rw [← encL_len (fun _ => 0) 0, ← raw_map f P 0 V, List.length_map, raw_len]
theorem Gc.moved {w : World} {hb : Nat} {cells first : Int} {v : Value} {ts : List Th} {rs : List Cl} {base : Nat} {rv : Value} {V : List Int} {v' : Value} {w' : World} (h : HpO w hb cells first v (encL (fun _ => 0) first ts)) (hV : ∀ x, x ∈ V ↔ Reach (docOf first ts) rs x) (hs : ∀ x ∈ V, (docOf first ts x).isSome = true)
    (hh : HpO w' hb cells (first + total ts) v' (encL (fun _ => 0) (first + total ts) (V.map (fun x => mvT (fw (docOf first ts) (first + total ts) V) (thP (docOf first ts) x)))))
    (hr : OwnC w' base rv (rs.map (mvC (fw (docOf first ts) (first + total ts) V)))) (hk : Kp ([hb] ++ v.ownBlock.toList ++ rv.ownBlock.toList) w w') (hf : ∃ g, v'.ownBlock = some g ∧ w.heap.size ≤ g) :
    Gc w hb cells first v ts rs base rv w' (first + total ts) v' (V.map (fun x => mvT (fw (docOf first ts) (first + total ts) V) (thP (docOf first ts) x))) (rs.map (mvC (fw (docOf first ts) (first + total ts) V))) := by
  have htot : total ts ≤ 1000000 := by have := h.len; rwa [encL_len] at this
  obtain ⟨h1, h2⟩ := closed_moved (first + total ts) hV hs
  have hlr : (raw (docOf first ts) V).length ≤ 1000000 := by
    have := hh.len
    rw [encL_len, total_map] at this
    rw [raw_len]
    exact this
  have htf := hh.pos
  refine ⟨hh, hr, h1, h2, hk, Or.inr hf, by omega, by simp, fun ho t ht => ?_, fun ho c hc => ?_, fun D R qs hi => ⟨_, hi.moved (moved_all (first + total ts) hV), ?_⟩⟩
  · obtain ⟨x, hx, rfl⟩ := List.mem_map.1 ht
    obtain ⟨u, hu⟩ := Option.isSome_iff_exists.1 (hs x hx)
    have hth : thP (docOf first ts) x = u := by unfold thP; rw [hu]; rfl
    obtain ⟨k1, k2, k3, k4, k5⟩ := ho u (doc_mem hu)
    rw [hth]
    refine ⟨k1, k2, k3, k4, fun c hc => ?_⟩
    obtain ⟨d, hd, rfl⟩ := List.mem_map.1 hc
    exact mvC_wf htf hlr (k5 d hd)
  · obtain ⟨d, hd, rfl⟩ := List.mem_map.1 hc
    exact mvC_wf htf hlr (ho d hd)
  rintro x y ⟨z, _, hR, _⟩
  exact ⟨z, hR⟩
inductive MakePost (w : World) (hb : Nat) (cells first : Int) (v : Value) (ts : List Th) (rs : List Cl) (base : Nat) (rv : Value) (kind tag n : Int) : Ending → World → Prop
  | arg (h : kind < 0 ∨ 4 < kind ∨ tag < 0 ∨ 65535 < tag ∨ n < 0 ∨ 1000000 < n) (w' : World) (hw : Below w.heap.size w w') : MakePost w hb cells first v ts rs base rv kind tag n (.returned (.tuple #[.int .i64 0, .int .i64 21])) w'
  | mem (m : Nat) (hn : n = m) (h : 0 ≤ kind ∧ kind ≤ 4 ∧ 0 ≤ tag ∧ tag ≤ 65535 ∧ n ≤ 1000000) (hV : ∀ V : List Int, V.Nodup → (∀ x, x ∈ V ↔ Reach (docOf first ts) rs x) → cells < cellsT (docOf first ts) V + 1 + m)
      (w1 : World) (first1 : Int) (v1 : Value) (ts1 : List Th) (rs1 : List Cl) (hg : Gc w hb cells first v ts rs base rv w1 first1 v1 ts1 rs1) : MakePost w hb cells first v ts rs base rv kind tag n (.returned (.tuple #[.int .i64 0, .int .i64 22])) w1
  | new (m : Nat) (hn : n = m) (h : 0 ≤ kind ∧ kind ≤ 4 ∧ 0 ≤ tag ∧ tag ≤ 65535 ∧ n ≤ 1000000) (hV : ∀ V : List Int, V.Nodup → (∀ x, x ∈ V ↔ Reach (docOf first ts) rs x) → (cellsT (docOf first ts) V : Int) + 1 + m ≤ cells)
      (w1 w' : World) (first1 : Int) (v1 v' : Value) (ts1 : List Th) (rs1 : List Cl) (hg : Gc w hb cells first v ts rs base rv w1 first1 v1 ts1 rs1)
      (hp : HpO w' hb cells first1 v' (encL (fun _ => 0) first1 (ts1 ++ [⟨kind, tag, List.replicate m default⟩]))) (hk : Kp ([hb] ++ v1.ownBlock.toList) w1 w') (hf : v'.ownBlock = v1.ownBlock ∨ ∃ g, v'.ownBlock = some g ∧ w1.heap.size ≤ g) :
      MakePost w hb cells first v ts rs base rv kind tag n (.returned (.tuple #[.int .i64 (first1 + total ts1), .int .i64 0])) w'
/-- What fits tells, in these words. -/
inductive FitsIs (w : World) (hb : Nat) (cells first : Int) (v : Value) (ts : List Th) (rs : List Cl) (base : Nat) (rv : Value) (m : Nat) : Ending → World → Prop
  | no (hV : ∀ V : List Int, V.Nodup → (∀ x, x ∈ V ↔ Reach (docOf first ts) rs x) → cells < cellsT (docOf first ts) V + 1 + m) (w1 : World) (first1 : Int) (v1 : Value) (ts1 : List Th) (rs1 : List Cl) (hg : Gc w hb cells first v ts rs base rv w1 first1 v1 ts1 rs1) : FitsIs w hb cells first v ts rs base rv m (.returned (.bool false)) w1
  | yes (hV : ∀ V : List Int, V.Nodup → (∀ x, x ∈ V ↔ Reach (docOf first ts) rs x) → (cellsT (docOf first ts) V : Int) + 1 + m ≤ cells) (w1 : World) (first1 : Int) (v1 : Value) (ts1 : List Th) (rs1 : List Cl) (hg : Gc w hb cells first v ts rs base rv w1 first1 v1 ts1 rs1) (hl : (total ts1 : Int) + 1 + m ≤ cells) : FitsIs w hb cells first v ts rs base rv m (.returned (.bool true)) w1
theorem fits_is {w : World} {hb : Nat} {cells first : Int} {v : Value} {ts : List Th} {rs : List Cl} {base : Nat} {rv : Value} {m : Nat} (h : HpO w hb cells first v (encL (fun _ => 0) first ts)) (hr : OwnC w base rv rs) (hc : Closed first ts) (hro : RootsOk (docOf first ts) rs) {e : Ending} {w' : World} (hF : FitsPost w hb cells first v ts rs base rv ((m : Int) + 1) e w') : FitsIs w hb cells first v ts rs base rv m e w' := by
  cases hF with
  | no h1 w' hw => exact FitsIs.no (fun V _ _ => by omega) w' first v ts rs (Gc.same h hr hc hro hw)
  | yes h1 w' hw =>
    refine FitsIs.yes (fun V hn hV => ?_) w' first v ts rs (Gc.same h hr hc hro hw) (by omega)
    have := cells_le (a := first) (ts := ts) hn (fun x hx => reach_some hc hro ((hV x).1 hx))
    omega
  | coll h1 n w' hC =>
    cases hC with
    | mk V v' w' hn hV hs hh hr' hk hf =>
      have hG := Gc.moved h hV hs hh hr' hk hf
      have hsame : ∀ W : List Int, W.Nodup → (∀ x, x ∈ W ↔ Reach (docOf first ts) rs x) → cellsT (docOf first ts) W = cellsT (docOf first ts) V := fun W hW h2 => cellsT_same _ hW hn (fun b => (h2 b).trans (hV b).symm)
      by_cases h2 : (m : Int) + 1 ≤ cells - (cellsT (docOf first ts) V : Nat)
      · rw [decide_eq_true h2]
        exact FitsIs.yes (fun W hW h3 => by rw [hsame W hW h3]; omega) _ _ _ _ _ hG (by rw [total_map]; omega)
      · rw [decide_eq_false h2]
        exact FitsIs.no (fun W hW h3 => by rw [hsame W hW h3]; omega) _ _ _ _ _ hG
end Go.Proofs.Ytfeopoamednidaa
