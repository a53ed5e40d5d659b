/-
  Both sides make a thing: the same errors; both sides together behind it.
-/
import Derived.Test.YtfeopoamednidaaNA
namespace Go.Proofs.Ytfeopoamednidaa
open Go.RowKit Go.Deep Go.IntWalk
theorem addrs_nodup : ∀ (a : Int) (ts : List Th), (addrs a ts).Nodup
  | _, [] => by simp [addrs]
  | a, t :: r => by
    rw [addrs, List.nodup_cons]
    refine ⟨fun h => ?_, addrs_nodup _ r⟩
    obtain ⟨u, hu⟩ := Option.isSome_iff_exists.1 ((addrs_mem _ _ _).1 h)
    have := doc_lt _ _ _ hu
    have := sz_pos t
    omega
theorem reach_list {first : Int} {ts : List Th} {ps : List Cl} (hc : Closed first ts) (hr : RootsOk (docOf first ts) ps) : ∃ V : List Int, V.Nodup ∧ ∀ x, x ∈ V ↔ Reach (docOf first ts) ps x := by
  classical
  refine ⟨(addrs first ts).filter (fun x => decide (Reach (docOf first ts) ps x)), (addrs_nodup first ts).filter _, fun x => ?_⟩
  rw [List.mem_filter, addrs_mem]
  constructor
  · intro h
    exact of_decide_eq_true h.2
  · intro h
    exact ⟨reach_some hc hr h, decide_eq_true h⟩
section
variable {B : Nat} {w : World} {wb hp hd base : Nat} {cells : Int} {S : Nat} {first : Int} {v : Value} {ts : List Th} {vp : Value} {ps : List Cl} {vq : Value} {qs : List Cl} {next : Int} {D : Doc} {mp : Option Nat} {q : Int → Option Addr} {ks : List Int} {R : Int → Int → Prop}
/-- Behind the program's Make. -/
inductive PMade (B : Nat) (w : World) (wb hp hd base : Nat) (cells : Int) (S : Nat) (vq : Value) (qs : List Cl) (next : Int) (D : Doc) (mp : Option Nat) (q : Int → Option Addr) (ks : List Int) (kind tag n : Int) (e : Ending) (w1 : World) : Prop
  | arg (he : e = .returned (.tuple #[.int .i64 0, .int .i64 21])) (hn : ¬ okArgs kind tag n) (first : Int) (v : Value) (ts : List Th) (vp : Value) (ps : List Cl) (R : Int → Int → Prop) (h : Jt B w1 wb hp hd base cells (S + 1) first v ts vp ps vq qs next D mp q ks R) (hb : Below B w w1) : PMade B w wb hp hd base cells S vq qs next D mp q ks kind tag n e w1
  | mem (he : e = .returned (.tuple #[.int .i64 0, .int .i64 22])) (hok : okArgs kind tag n) (hV : ∀ W : List Int, W.Nodup → (∀ y, y ∈ W ↔ Reach D qs y) → cells < (cellsT D W : Int) + 1 + n) (first : Int) (v : Value) (ts : List Th) (vp : Value) (ps : List Cl) (R : Int → Int → Prop) (h : Jt B w1 wb hp hd base cells (S + 1) first v ts vp ps vq qs next D mp q ks R) (hb : Below B w w1) : PMade B w wb hp hd base cells S vq qs next D mp q ks kind tag n e w1
  | new (m : Nat) (hm : n = m) (x : Int) (he : e = .returned (.tuple #[.int .i64 x, .int .i64 0])) (hok : okArgs kind tag n) (hV : ∀ W : List Int, W.Nodup → (∀ y, y ∈ W ↔ Reach D qs y) → (cellsT D W : Int) + 1 + n ≤ cells) (first : Int) (v : Value) (ts : List Th) (vp : Value) (ps : List Cl) (R : Int → Int → Prop) (h : Jt B w1 wb hp hd base cells (S + 1) first v ts vp ps vq qs next D mp q ks R) (hb : Below B w w1) (hl : ps.length + 1 ≤ S + 1) (hx : docOf first ts x = some ⟨kind, tag, List.replicate m default⟩) (hrx : ∀ z, ¬ R x z) (hwx : (Lit.int .i64 x).wf = true) : PMade B w wb hp hd base cells S vq qs next D mp q ks kind tag n e w1
theorem Jt.pmade (h : Jt B w wb hp hd base cells S first v ts vp ps vq qs next D mp q ks R) (hS : S + 1 ≤ 3000000000000) {kind tag n : Int} {e : Ending} {w1 : World} (hm : MakePost w hp cells first v ts ps base vp kind tag n e w1) : PMade B w wb hp hd base cells S vq qs next D mp q ks kind tag n e w1 := by
  obtain ⟨V, hVn, hV⟩ := reach_list h.cl h.roots
  have hcell : ∀ W : List Int, W.Nodup → (∀ y, y ∈ W ↔ Reach D qs y) → cellsT (docOf first ts) V = cellsT D W := fun W hW h2 => h.iso.cells hVn hW hV h2
  have hlt := h.lt
  cases hm with
  | arg hbad w1 hw =>
    refine PMade.arg rfl (by unfold okArgs; omega) first v ts vp ps R ((h.kp (Kp.of_below hw)).up hS) (hw.mono (by omega))
  | mem m hn hok hV2 w1 first1 v1 ts1 ps1 hg =>
    obtain ⟨R1, hJ, hB⟩ := h.gc hg hS
    refine PMade.mem rfl (by unfold okArgs; omega) (fun W hW h2 => ?_) first1 v1 ts1 vp ps1 R1 hJ hB
    have := hV2 V hVn hV
    rw [hcell W hW h2] at this
    omega
  | new m hn hok hV2 w0 w1 first1 v0 v1 ts1 ps1 hg hh hk hf =>
    obtain ⟨R1, hJ, hB⟩ := h.gc hg hS
    obtain ⟨hJ2, hrx, hx, hB2⟩ := hJ.growP ⟨hok.1, hok.2.1, hok.2.2.1, hok.2.2.2.1⟩ hh hk hf
    refine PMade.new m hn _ rfl (by unfold okArgs; omega) (fun W hW h2 => ?_) first1 v1 _ vp ps1 R1 hJ2 (hB.trans hB2) (by have := h.pl; have := hg.len; omega) hx hrx (i64_wf ?_)
    · have := hV2 V hVn hV
      rw [hcell W hW h2] at this
      omega
    · have h1 := hg.hp.pos
      have h2 := hg.hp.len
      rw [encL_len] at h2
      omega
theorem Jt.bmade {w1 : World} {kind tag n : Int} {e : Ending} (hP : PMade B w wb hp hd base cells S vq qs next D mp q ks kind tag n e w1) (hnx : next ≤ S) {f : Ending} {w2 : World} (hR : MakeRPost w1 hd cells next D q qs kind tag n f w2) : BothMade B w wb hp hd base cells S kind tag n e f w2 := by
  cases hP with
  | arg he hn first v ts vp ps R h hb =>
    cases hR with
    | bad hf hw _ =>
      subst hw
      exact BothMade.no 21 (by decide) he hf (StepPost.mk _ _ _ _ _ _ _ _ _ _ _ _ _ _ h hb)
    | full V mb hf hok => exact absurd hok hn
    | made V mb g hf hok => exact absurd hok hn
  | mem he hok hV first v ts vp ps R h hb =>
    cases hR with
    | bad hf hw hn => exact absurd hok hn
    | full V mb hf _ hV2 hs hd2 hk hm =>
      obtain ⟨R1, hJ, hB⟩ := h.kept hV2 hd2 hk hm
      exact BothMade.no 22 (by decide) he hf (StepPost.mk _ _ _ _ _ _ _ _ _ _ _ _ _ _ hJ (hb.trans hB))
    | made V mb g hf _ hV2 hs hd2 hk hm =>
      have := hV V (List.nodup_append.1 hd2.nd).1 hV2
      omega
  | new m hm x he hok hV first v ts vp ps R h hb hl hx hrx hwx =>
    cases hR with
    | bad hf hw hn => exact absurd hok hn
    | full V mb hf _ hV2 hs hd2 hk hm2 =>
      have := hV V hd2.nd hV2
      omega
    | made V mb g hf _ hV2 hs hd2 hk hm2 hg hgo =>
      have hn0 : 0 ≤ n := hok.2.2.2.2.1
      obtain ⟨R1, hJ, hsub, hry, hB⟩ := h.growD hn0 hV2 hs (by omega) hd2 hk hm2 hg hgo
      have hnn := h.nx
      have hsl := h.sl
      refine BothMade.new m hm (by have := hok.2.2.2.2.2; omega) x next he hf first v ts vp ps vq qs _ _ _ _ _ R1 hJ (hb.trans hB) hl hx ?_ (fun z hz => hrx z (hsub _ _ hz)) hry hwx (i64_wf (by omega))
      rw [upd_same, hm]
      simp
end
end Go.Proofs.Ytfeopoamednidaa
