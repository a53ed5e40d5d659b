/-
  Both sides together: what is not reached is given up, on either side.
-/
import Derived.Test.YtfeopoamednidaaN1
namespace Go.Proofs.Ytfeopoamednidaa
open Go.RowKit Go.Deep Go.IntWalk
theorem cellsT_kept (D : Doc) : ∀ (U V : List Int), (∀ b ∈ U, b ∈ V) → cellsT (keptD D V) U = cellsT D U
  | [], V, _ => rfl
  | b :: U, V, h => by
    rw [cellsT, cellsT, cellsT_kept D U V (fun x hx => h x (by simp [hx]))]
    have : fsOf (keptD D V) b = fsOf D b := by
      unfold fsOf keptD
      rw [if_pos (h b (by simp))]
    rw [this]
theorem cellsT_sub (D : Doc) {V W : List Int} (hn : V.Nodup) (hs : ∀ x ∈ V, x ∈ W) : cellsT D V ≤ cellsT D W := by
  have h1 := fieldsT_sub D V W hn hs
  have h2 := len_sub V W hn hs
  rw [cellsT_eq, cellsT_eq]
  omega
section
variable {B : Nat} {w : World} {wb hp hd base : Nat} {cells : Int} {S : Nat} {first : Int} {v : Value} {ts : List Th} {vp : Value} {ps : List Cl} {vq : Value} {qs : List Cl} {next : Int} {D : Doc} {mp : Option Nat} {q : Int → Option Addr} {ks : List Int} {R : Int → Int → Prop}
theorem Jt.lt (h : Jt B w wb hp hd base cells S first v ts vp ps vq qs next D mp q ks R) : B < w.heap.size := Nat.lt_of_le_of_lt h.lb.1 (Array.getElem?_eq_some_iff.1 h.ms.box).1
/-- The program's side gave up what is not reached, or did not. -/
theorem Jt.gc (h : Jt B w wb hp hd base cells S first v ts vp ps vq qs next D mp q ks R) {w1 : World} {first1 : Int} {v1 : Value} {ts1 : List Th} {ps1 : List Cl} (hg : Gc w hp cells first v ts ps base vp w1 first1 v1 ts1 ps1) (hS : S + 1 ≤ 3000000000000) :
    ∃ R1, Jt B w1 wb hp hd base cells (S + 1) first1 v1 ts1 vp ps1 vq qs next D mp q ks R1 ∧ Below B w w1 := by
  obtain ⟨R1, hI, _⟩ := hg.iso D R qs h.iso
  have hlt := h.lt
  have hX : ∀ k ∈ [hp] ++ v.ownBlock.toList ++ vp.ownBlock.toList, k = hp ∨ v.ownBlock = some k ∨ vp.ownBlock = some k ∨ w.heap.size ≤ k := fun k hk => by
    simp at hk
    rcases hk with hk | hk | hk
    · exact Or.inl hk
    · exact Or.inr (Or.inl hk)
    · exact Or.inr (Or.inr (Or.inl hk))
  have hoff := fun k hk => h.docOff (hX k hk)
  have hwb : w1.heap[wb]? = _ := (hg.k.block wb (Array.getElem?_eq_some_iff.1 h.ms.box).1 (fun hx => (hoff wb hx).2.2.2.1 rfl)).trans h.ms.box
  refine ⟨R1, ⟨⟨hwb, hg.r, h.ms.q.keep (fun k hk => hg.k.block k (h.ms.q.block k hk).2 (fun hx => (hoff k hx).2.2.2.2 hk)), h.ms.dj, h.ms.lt, Nat.le_trans h.ms.le hg.k.size⟩, hg.hp, h.dc.kp hg.k (fun hx => (hoff hd hx).1 rfl) (fun k hk hx => (hoff k hx).2.1 hk) (fun b t a hb hq hx => (hoff a.block hx).2.2.1 b t a hb hq rfl), hI, hg.cl, hg.wfr h.wfp, h.wfq, hg.oth h.oth, fun b t a hb hq => ?_, h.qi, ⟨h.nx.1, by have := h.nx; omega⟩, h.kl, h.cs, by have := h.fs; have := hg.lt; omega, by have := h.pl; have := hg.len; omega, h.ok, hS, ⟨h.lb.1, h.lb.2.1, h.lb.2.2.1, h.lb.2.2.2.1, fun k hk => ?_, h.lb.2.2.2.2.2.1, h.lb.2.2.2.2.2.2⟩⟩, hg.k.below (by omega) (fun k hk => ?_)⟩
  · obtain ⟨k1, k2, k3, cur, k4⟩ := h.qr b t a hb hq
    exact ⟨k1, k2, k3, cur, (hg.k.block _ (Array.getElem?_eq_some_iff.1 k4).1 (fun hx => (hoff a.block hx).2.2.1 b t a hb hq rfl)).trans k4⟩
  · rcases hg.f with e | ⟨g, e1, e2⟩
    · exact h.lb.2.2.2.2.1 k (e ▸ hk)
    · rw [e1] at hk
      cases hk
      omega
  · rcases hX k hk with rfl | e | e | e
    · exact h.lb.2.1
    · exact h.lb.2.2.2.2.1 k e
    · exact Nat.le_trans h.lb.2.2.2.1 (h.ms.p.block k e).1
    · omega
/-- The document's side gave up what is not reached. -/
theorem Jt.kept (h : Jt B w wb hp hd base cells S first v ts vp ps vq qs next D mp q ks R) {w1 : World} {V : List Int} {mb : Nat} (hV : ∀ b, b ∈ V ↔ Reach D qs b) (hdc : DocAt w1 hd cells next (keptD D V) (some mb) q V) (hk : Kp [hd] w w1) (hm : w.heap.size ≤ mb) :
    ∃ R1, Jt B w1 wb hp hd base cells S first v ts vp ps vq qs next (keptD D V) (some mb) q V R1 ∧ Below B w w1 := by
  have hlt := h.lt
  have hsub : ∀ b ∈ V, b ∈ ks := fun b hb => by
    obtain ⟨x, hR, _⟩ := h.iso.reach' ((hV b).1 hb)
    obtain ⟨t, u, _, e2, _⟩ := h.iso.things x b hR
    exact (h.dc.keys b).1 (by rw [e2]; rfl)
  have hhd : hd ≠ wb := fun e => by
    have h1 := h.ms.box
    rw [← e, h.dc.box] at h1
    cases h1
  have hhp : hd ≠ hp := fun e => by
    have h1 := h.hh.box
    rw [← e, h.dc.box] at h1
    cases h1
  have hkd : ∀ b t, keptD D V b = some t → D b = some t := fun b t hb => by
    unfold keptD at hb
    split at hb
    · exact hb
    · cases hb
  refine ⟨_, ⟨h.ms.kp hk (fun x hx => ?_), h.hh.kp hk (by simpa using Ne.symm hhp) (fun k hk2 => by simp; exact fun e => h.hh.own.ne h.dc.box (by decide) (e ▸ hk2)), hdc, h.iso.kept hV, h.cl, h.wfp, h.wfq, h.oth, fun b t a hb hq => ?_, fun b b' t t' a a' h1 h2 h3 h4 h5 => h.qi b b' t t' a a' (hkd b t h1) (hkd b' t' h2) h3 h4 h5, h.nx, fun y hy => h.kl y (hsub y hy), ?_, h.fs, h.pl, h.ok, h.sl, ⟨h.lb.1, h.lb.2.1, h.lb.2.2.1, h.lb.2.2.2.1, h.lb.2.2.2.2.1, fun k e => by cases e; omega, fun b t a hb hq => h.lb.2.2.2.2.2.2 b t a (hkd b t hb) hq⟩⟩, hk.below (by omega) (by simp; exact h.lb.2.2.1)⟩
  · simp at hx
    subst hx
    exact ⟨hhd, fun e => h.ms.p.ne50 h.dc.box (by simp) e, fun e => h.ms.q.ne50 h.dc.box (by simp) e⟩
  · obtain ⟨k1, k2, k3, cur, k4⟩ := h.qr b t a (hkd b t hb) hq
    refine ⟨k1, k2, k3, cur, (hk.block _ (Array.getElem?_eq_some_iff.1 k4).1 ?_).trans k4⟩
    simp
    intro e
    rw [e, h.dc.box] at k4
    cases k4
  · rw [cellsT_kept D V V (fun _ h => h)]
    exact Nat.le_trans (cellsT_sub D hdc.nd hsub) h.cs
end
end Go.Proofs.Ytfeopoamednidaa
namespace Go.Proofs.Ytfeopoamednidaa
open Go.RowKit Go.Deep Go.IntWalk
theorem Iso.growP {P P' D : Doc} {R : Int → Int → Prop} {ps qs : List Cl} (h : Iso P D R ps qs) (hP : ∀ x t, P x = some t → P' x = some t) : Iso P' D R ps qs := ⟨h.one, h.roots, fun x y hR => by
  obtain ⟨t, u, h1, h2, h3⟩ := h.things x y hR
  exact ⟨t, u, hP x t h1, h2, h3⟩⟩
theorem Iso.growD {P D D' : Doc} {R : Int → Int → Prop} {ps qs : List Cl} (h : Iso P D R ps qs) (hD : ∀ y u, D y = some u → D' y = some u) : Iso P D' R ps qs := ⟨h.one, h.roots, fun x y hR => by
  obtain ⟨t, u, h1, h2, h3⟩ := h.things x y hR
  exact ⟨t, u, h1, hD y u h2, h3⟩⟩
/-- Two new things, of numbers alone, go together; they are roots. -/
theorem Iso.link {P D : Doc} {R : Int → Int → Prop} {ps qs : List Cl} (h : Iso P D R ps qs) {x y : Int} (hx : ∀ z, ¬ R x z) (hy : ∀ z, ¬ R z y) {kind tag : Int} {n : Nat} (hPx : P x = some ⟨kind, tag, List.replicate n default⟩) (hDy : D y = some ⟨kind, tag, List.replicate n default⟩) :
    Iso P D (fun a b => R a b ∨ a = x ∧ b = y) (ps ++ [⟨true, x⟩]) (qs ++ [⟨true, y⟩]) := by
  have := h.made hx hy kind tag n
  have e1 : upd P x (some ⟨kind, tag, List.replicate n default⟩) = P := by
    funext z
    unfold upd
    split
    · rename_i e
      rw [e, hPx]
    · rfl
  have e2 : upd D y (some ⟨kind, tag, List.replicate n default⟩) = D := by
    funext z
    unfold upd
    split
    · rename_i e
      rw [e, hDy]
    · rfl
  rw [e1, e2] at this
  exact this
section
variable {B : Nat} {w : World} {wb hp hd base : Nat} {cells : Int} {S : Nat} {first : Int} {v : Value} {ts : List Th} {vp : Value} {ps : List Cl} {vq : Value} {qs : List Cl} {next : Int} {D : Doc} {mp : Option Nat} {q : Int → Option Addr} {ks : List Int} {R : Int → Int → Prop}
theorem default_wf : wfC default := i64_wf (by decide)
/-- One thing more in the program's heap. -/
theorem Jt.growP (h : Jt B w wb hp hd base cells S first v ts vp ps vq qs next D mp q ks R) {w1 : World} {v1 : Value} {kind tag : Int} {m : Nat} (hok : 0 ≤ kind ∧ kind ≤ 4 ∧ 0 ≤ tag ∧ tag ≤ 65535) (hh : HpO w1 hp cells first v1 (encL (fun _ => 0) first (ts ++ [⟨kind, tag, List.replicate m default⟩]))) (hk : Kp ([hp] ++ v.ownBlock.toList) w w1) (hf : v1.ownBlock = v.ownBlock ∨ ∃ g, v1.ownBlock = some g ∧ w.heap.size ≤ g) :
    Jt B w1 wb hp hd base cells S first v1 (ts ++ [⟨kind, tag, List.replicate m default⟩]) vp ps vq qs next D mp q ks R ∧ (∀ z, ¬ R (first + total ts) z) ∧ docOf first (ts ++ [⟨kind, tag, List.replicate m default⟩]) (first + total ts) = some ⟨kind, tag, List.replicate m default⟩ ∧ Below B w w1 := by
  have hlt := h.lt
  have hX : ∀ k ∈ [hp] ++ v.ownBlock.toList, k = hp ∨ v.ownBlock = some k ∨ vp.ownBlock = some k ∨ w.heap.size ≤ k := fun k hk => by
    simp at hk
    rcases hk with hk | hk
    · exact Or.inl hk
    · exact Or.inr (Or.inl hk)
  have hoff := fun k hk => h.docOff (hX k hk)
  have hpoff : ∀ k ∈ [hp] ++ v.ownBlock.toList, vp.ownBlock ≠ some k := fun k hk e => by
    obtain ⟨cur, hc⟩ := h.ms.p.obj e
    rcases hX k hk with rfl | e2 | e2 | e2
    · rw [h.hh.box] at hc
      simp at hc
    · exact h.hh.own.ne hc (by decide) e2
    · simp at hk
      rcases hk with rfl | hk
      · rw [h.hh.box] at hc
        simp at hc
      · exact h.hh.own.ne hc (by decide) hk
    · have := (h.ms.p.block k e).2
      omega
  have hnew : docOf first (ts ++ [⟨kind, tag, List.replicate m default⟩]) (first + total ts) = some ⟨kind, tag, List.replicate m default⟩ := doc_at first ts _ []
  have hold : ∀ x t, docOf first ts x = some t → docOf first (ts ++ [⟨kind, tag, List.replicate m default⟩]) x = some t := fun x t hx => by
    have := doc_lt _ _ _ hx
    rw [doc_app, if_pos (by omega)]
    exact hx
  have hno : docOf first ts (first + total ts) = none := doc_end _ _ _ (Int.le_refl _)
  refine ⟨⟨h.ms.kp hk (fun x hx => ⟨(hoff x hx).2.2.2.1, hpoff x hx, (hoff x hx).2.2.2.2⟩), hh, h.dc.kp hk (fun hx => (hoff hd hx).1 rfl) (fun k hk hx => (hoff k hx).2.1 hk) (fun b t a hb hq hx => (hoff a.block hx).2.2.1 b t a hb hq rfl), h.iso.growP hold, fun t ht y hy => ?_, h.wfp, h.wfq, fun t ht => ?_, fun b t a hb hq => ?_, h.qi, h.nx, h.kl, h.cs, h.fs, h.pl, h.ok, h.sl, ⟨h.lb.1, h.lb.2.1, h.lb.2.2.1, h.lb.2.2.2.1, fun k hk => ?_, h.lb.2.2.2.2.2.1, h.lb.2.2.2.2.2.2⟩⟩, fun z hR => ?_, hnew, hk.below (by omega) (fun k hk => ?_)⟩
  · rcases List.mem_append.1 ht with ht | ht
    · obtain ⟨u, hu⟩ := Option.isSome_iff_exists.1 (h.cl t ht y hy)
      rw [hold y u hu]
      rfl
    · simp at ht
      subst ht
      have := List.eq_of_mem_replicate hy
      cases this
  · rcases List.mem_append.1 ht with ht | ht
    · exact h.oth t ht
    · simp at ht
      subst ht
      refine ⟨hok.1, hok.2.1, hok.2.2.1, hok.2.2.2, fun c hc => ?_⟩
      rw [List.eq_of_mem_replicate hc]
      exact default_wf
  · obtain ⟨k1, k2, k3, cur, k4⟩ := h.qr b t a hb hq
    exact ⟨k1, k2, k3, cur, (hk.block _ (Array.getElem?_eq_some_iff.1 k4).1 (fun hx => (hoff a.block hx).2.2.1 b t a hb hq rfl)).trans k4⟩
  · rcases hf with e | ⟨g, e1, e2⟩
    · exact h.lb.2.2.2.2.1 k (e ▸ hk)
    · rw [e1] at hk
      cases hk
      omega
  · obtain ⟨t, u, e1, _⟩ := h.iso.things _ z hR
    rw [hno] at e1
    cases e1
  · simp at hk
    rcases hk with rfl | e
    · exact h.lb.2.1
    · exact h.lb.2.2.2.2.1 k e
/-- One thing more in the document's heap, behind a look at what is reached. -/
theorem Jt.growD (h : Jt B w wb hp hd base cells S first v ts vp ps vq qs next D mp q ks R) {w1 : World} {V : List Int} {mb g : Nat} {kind tag n : Int} (hn : 0 ≤ n) (hV : ∀ b, b ∈ V ↔ Reach D qs b) (hs : (cellsT D V : Int) + 1 + n ≤ cells) (hS : next + 1 ≤ S)
    (hdc : DocAt w1 hd cells (next + 1) (upd (keptD D V) next (some ⟨kind, tag, List.replicate n.toNat default⟩)) (some mb) (upd q next (some ⟨g, 0, none⟩)) (V ++ [next])) (hk : Kp [hd] w w1) (hm : w.heap.size ≤ mb) (hg : w.heap.size ≤ g) (hgo : ∃ cur, w1.heap[g]? = some (.cells cur 50)) :
    ∃ R1, Jt B w1 wb hp hd base cells S first v ts vp ps vq qs (next + 1) (upd (keptD D V) next (some ⟨kind, tag, List.replicate n.toNat default⟩)) (some mb) (upd q next (some ⟨g, 0, none⟩)) (V ++ [next]) R1 ∧ (∀ x y, R1 x y → R x y) ∧ (∀ z, ¬ R1 z next) ∧ Below B w w1 := by
  have hlt := h.lt
  have hsub : ∀ b ∈ V, b ∈ ks := fun b hb => by
    obtain ⟨x, hR, _⟩ := h.iso.reach' ((hV b).1 hb)
    obtain ⟨t, u, _, e2, _⟩ := h.iso.things x b hR
    exact (h.dc.keys b).1 (by rw [e2]; rfl)
  have hndV : V.Nodup := (List.nodup_append.1 hdc.nd).1
  have hnV : next ∉ V := fun hx => by have := h.kl next (hsub next hx); omega
  have hhd : hd ≠ wb := fun e => by
    have h1 := h.ms.box
    rw [← e, h.dc.box] at h1
    cases h1
  have hhp : hd ≠ hp := fun e => by
    have h1 := h.hh.box
    rw [← e, h.dc.box] at h1
    cases h1
  have hkd : ∀ b t, keptD D V b = some t → D b = some t := fun b t hb => by
    unfold keptD at hb
    split at hb
    · exact hb
    · cases hb
  have hkn : keptD D V next = none := by unfold keptD; rw [if_neg hnV]
  have hup : ∀ b t, upd (keptD D V) next (some ⟨kind, tag, List.replicate n.toNat default⟩) b = some t → b = next ∨ (b ≠ next ∧ D b = some t) := fun b t hb => by
    by_cases e : b = next
    · exact Or.inl e
    · rw [upd_other _ _ e] at hb
      exact Or.inr ⟨e, hkd b t hb⟩
  have hold : ∀ y u, keptD D V y = some u → upd (keptD D V) next (some ⟨kind, tag, List.replicate n.toNat default⟩) y = some u := fun y u hy => by
    rw [upd_other _ _ (fun e => by rw [e, hkn] at hy; cases hy)]
    exact hy
  have hfresh : ∀ b t a, D b = some t → q b = some a → a.block < w.heap.size := fun b t a hb hq => by
    obtain ⟨_, _, _, cur, k4⟩ := h.qr b t a hb hq
    exact (Array.getElem?_eq_some_iff.1 k4).1
  refine ⟨_, ⟨h.ms.kp hk (fun x hx => ?_), h.hh.kp hk (by simpa using Ne.symm hhp) (fun k hk2 => by simp; exact fun e => h.hh.own.ne h.dc.box (by decide) (e ▸ hk2)), hdc, (h.iso.kept hV).growD hold, h.cl, h.wfp, h.wfq, h.oth, fun b t a hb hq => ?_, fun b b' t t' a a' h1 h2 h3 h4 h5 => ?_, ⟨by have := h.nx; omega, hS⟩, fun y hy => ?_, ?_, h.fs, h.pl, h.ok, h.sl, ⟨h.lb.1, h.lb.2.1, h.lb.2.2.1, h.lb.2.2.2.1, h.lb.2.2.2.2.1, (fun k e => by cases e; omega), fun b t a hb hq => ?_⟩⟩, fun x y hR => hR.1, fun z hR => ?_, hk.below (by omega) (by simp; exact h.lb.2.2.1)⟩
  · simp at hx
    subst hx
    exact ⟨hhd, fun e => h.ms.p.ne50 h.dc.box (by simp) e, fun e => h.ms.q.ne50 h.dc.box (by simp) e⟩
  · rcases hup b t hb with rfl | ⟨e, hD⟩
    · rw [upd_same] at hq
      cases hq
      obtain ⟨cur, hcur⟩ := hgo
      exact ⟨rfl, fun e => by have := (h.ms.p.block g e).2; omega, fun e => by have := (h.ms.q.block g e).2; omega, cur, hcur⟩
    · rw [upd_other _ _ e] at hq
      obtain ⟨k1, k2, k3, cur, k4⟩ := h.qr b t a hD hq
      refine ⟨k1, k2, k3, cur, (hk.block _ (Array.getElem?_eq_some_iff.1 k4).1 ?_).trans k4⟩
      simp
      intro e
      rw [e, h.dc.box] at k4
      cases k4
  · rcases hup b t h1 with rfl | ⟨e, hD⟩
    · rcases hup b' t' h2 with rfl | ⟨e', hD'⟩
      · rfl
      · rw [upd_same] at h3
        rw [upd_other _ _ e'] at h4
        cases h3
        have := hfresh b' t' a' hD' h4
        simp only at h5
        omega
    · rcases hup b' t' h2 with rfl | ⟨e', hD'⟩
      · rw [upd_same] at h4
        rw [upd_other _ _ e] at h3
        cases h4
        have := hfresh b t a hD h3
        simp only at h5
        omega
      · rw [upd_other _ _ e] at h3
        rw [upd_other _ _ e'] at h4
        exact h.qi b b' t t' a a' hD hD' h3 h4 h5
  · rcases List.mem_append.1 hy with hy | hy
    · have := h.kl y (hsub y hy)
      omega
    · simp at hy
      subst hy
      have := h.nx
      omega
  · rw [cellsT_snoc]
    have e1 : cellsT (upd (keptD D V) next (some ⟨kind, tag, List.replicate n.toNat default⟩)) V = cellsT D V := by
      have : ∀ U : List Int, (∀ b ∈ U, b ∈ V) → cellsT (upd (keptD D V) next (some ⟨kind, tag, List.replicate n.toNat default⟩)) U = cellsT D U := fun U => by
        induction U with
        | nil => intro _; rfl
        | cons b U ih =>
          intro hU
          rw [cellsT, cellsT, ih (fun x hx => hU x (by simp [hx]))]
          have hb := hU b (by simp)
          have : fsOf (upd (keptD D V) next (some ⟨kind, tag, List.replicate n.toNat default⟩)) b = fsOf D b := by
            unfold fsOf
            rw [upd_other _ _ (show b ≠ next from fun e => hnV (by rw [← e]; exact hb))]
            unfold keptD
            rw [if_pos hb]
          rw [this]
      exact this V (fun _ h => h)
    have e2 : fsOf (upd (keptD D V) next (some ⟨kind, tag, List.replicate n.toNat default⟩)) next = List.replicate n.toNat default := by unfold fsOf; rw [upd_same]; rfl
    rw [e1, e2, List.length_replicate]
    have := h.ok
    omega
  · rcases hup b t hb with rfl | ⟨e, hD⟩
    · rw [upd_same] at hq
      cases hq
      simp only
      omega
    · rw [upd_other _ _ e] at hq
      exact h.lb.2.2.2.2.2.2 b t a hD hq
  · obtain ⟨t, u, _, e2, _⟩ := h.iso.things z next hR.1
    have := h.kl next ((h.dc.keys next).1 (by rw [e2]; rfl))
    omega
/-- One root more. -/
theorem Jt.more (h : Jt B w wb hp hd base cells S first v ts vp ps vq qs next D mp q ks R) {a b : Cl} {R1 : Int → Int → Prop} (hI : Iso (docOf first ts) D R1 (ps ++ [a]) (qs ++ [b])) (ha : wfC a) (hb : wfC b) (hS : ps.length + 1 ≤ S) {e : Ending} {w1 : World} (hm : MorePost w wb (.pointer (some ⟨hp, 0, none⟩)) hd base vp (ps ++ [a]) vq (qs ++ [b]) e w1) :
    e = .returned (.tuple #[]) ∧ ∃ vp1 vq1, Jt B w1 wb hp hd base cells S first v ts vp1 (ps ++ [a]) vq1 (qs ++ [b]) next D mp q ks R1 ∧ Below B w w1 := by
  obtain ⟨vp1, vq1, he, hs, hk, h1, h2⟩ := hm
  have hlt := h.lt
  have hX : ∀ k ∈ wb :: (vp.ownBlock.toList ++ vq.ownBlock.toList), k = wb ∨ vp.ownBlock = some k ∨ vq.ownBlock = some k := fun k hk => by simpa using hk
  have hcell : ∀ k ∈ wb :: (vp.ownBlock.toList ++ vq.ownBlock.toList), ∃ c t, w.heap[k]? = some (.cells c t) ∧ (t = 34 ∨ t = 50) := fun k hk => by
    rcases hX k hk with rfl | e | e
    · exact ⟨_, _, h.ms.box, Or.inl rfl⟩
    · obtain ⟨c, hc⟩ := h.ms.p.obj e
      exact ⟨c, 50, hc, Or.inr rfl⟩
    · obtain ⟨c, hc⟩ := h.ms.q.obj e
      exact ⟨c, 50, hc, Or.inr rfl⟩
  have hqo : ∀ b t a, D b = some t → q b = some a → a.block ∉ wb :: (vp.ownBlock.toList ++ vq.ownBlock.toList) := fun b t a hb hq hx => by
    obtain ⟨_, k2, k3, cur, k4⟩ := h.qr b t a hb hq
    rcases hX _ hx with e | e | e
    · rw [e, h.ms.box] at k4
      simp at k4
    · exact k2 e
    · exact k3 e
  have hmo : ∀ k, mp = some k → k ∉ wb :: (vp.ownBlock.toList ++ vq.ownBlock.toList) := fun k e hx => by
    obtain ⟨c, t, hc, _⟩ := hcell k hx
    rcases h.dc.map with ⟨e2, _⟩ | ⟨mb, e2, hm⟩
    · rw [e2] at e
      cases e
    · rw [e2] at e
      cases e
      obtain ⟨Dm, ⟨es, clock, k1, _⟩, _⟩ := hm
      rw [hc] at k1
      cases k1
  refine ⟨he, vp1, vq1, ⟨hs, h.hh.kp hk (fun hx => ?_) (fun k hk2 hx => ?_), h.dc.kp hk (fun hx => ?_) hmo hqo, hI, h.cl, fun c hc => ?_, fun c hc => ?_, h.oth, fun b t a hb hq => ?_, h.qi, h.nx, h.kl, h.cs, h.fs, by simpa using hS, h.ok, h.sl, h.lb⟩, hk.below (by omega) (fun k hk => ?_)⟩
  · obtain ⟨c, t, hc, ht⟩ := hcell _ hx
    rw [h.hh.box] at hc
    simp only [Option.some.injEq, Obj.cells.injEq] at hc
    rcases ht with rfl | rfl <;> exact absurd hc.2.1 (by decide)
  · obtain ⟨c, t, hc, ht⟩ := hcell _ hx
    exact h.hh.own.ne hc (by rcases ht with rfl | rfl <;> decide) hk2
  · obtain ⟨c, t, hc, ht⟩ := hcell _ hx
    rw [h.dc.box] at hc
    simp only [Option.some.injEq, Obj.cells.injEq] at hc
    rcases ht with rfl | rfl <;> exact absurd hc.2.1 (by decide)
  · rcases List.mem_append.1 hc with hc | hc
    · exact h.wfp c hc
    · simp at hc
      subst hc
      exact ha
  · rcases List.mem_append.1 hc with hc | hc
    · exact h.wfq c hc
    · simp at hc
      subst hc
      exact hb
  · obtain ⟨k1, k2, k3, cur, k4⟩ := h.qr b t a hb hq
    have hl := (Array.getElem?_eq_some_iff.1 k4).1
    refine ⟨k1, fun e => ?_, fun e => ?_, cur, (hk.block _ hl (hqo b t a hb hq)).trans k4⟩
    · rcases h1 with h1 | ⟨g, e1, e2⟩
      · exact k2 (h1 ▸ e)
      · rw [e1] at e
        cases e
        omega
    · rcases h2 with h2 | ⟨g, e1, e2⟩
      · exact k3 (h2 ▸ e)
      · rw [e1] at e
        cases e
        omega
  · rcases hX k hk with rfl | e | e
    · exact h.lb.1
    · exact Nat.le_trans h.lb.2.2.2.1 (h.ms.p.block k e).1
    · exact Nat.le_trans h.lb.2.2.2.1 (h.ms.q.block k e).1
end
end Go.Proofs.Ytfeopoamednidaa
namespace Go.Proofs.Ytfeopoamednidaa
open Go.RowKit Go.Deep Go.IntWalk
def put2 (w : World) (g o : Nat) (c : Cl) : World := (w.setCell ⟨g, o, none⟩ (.bool c.p)).setCell ⟨g, o + 1, none⟩ (.int .i64 c.n)
theorem put2_kp (w : World) (g o : Nat) (c : Cl) : Kp [g] w (put2 w g o c) := (Kp.setCell _ ⟨g, _, none⟩ (by simp) _).trans (Kp.setCell _ ⟨g, _, none⟩ (by simp) _)
theorem cell_oth (w : World) (g o o' : Nat) (u : Value) (h : o ≠ o') : (w.setCell ⟨g, o, none⟩ u).cell? ⟨g, o', none⟩ = w.cell? ⟨g, o', none⟩ := World.cell?_setCell_other _ _ _ _ (fun e => h (by cases e; rfl))
theorem RowC.set {w : World} {g : Nat} {l : List Cl} (h : RowC w (some ⟨g, 0, none⟩) l) (i : Nat) (c : Cl) : RowC (put2 w g (i * 2) c) (some ⟨g, 0, none⟩) (l.set i c) := by
  refine ⟨by rw [List.length_set]; exact h.len, fun j hj => ⟨g, 0, rfl, ?_, ?_⟩⟩
  · have hj' : j < l.length := by simpa using hj
    obtain ⟨b, o, e, k1, k2⟩ := h.get j hj'
    cases e
    rw [Nat.zero_add] at k1 k2
    rw [Nat.zero_add, List.getElem_set]
    unfold put2
    by_cases e : i = j
    · subst e
      rw [if_pos rfl, cell_oth _ _ _ _ _ (by omega), World.cell?_setCell_same' _ _ _ (by rw [k1]; rfl)]
    · rw [if_neg e, cell_oth _ _ _ _ _ (by omega), cell_oth _ _ _ _ _ (by omega)]
      exact k1
  · have hj' : j < l.length := by simpa using hj
    obtain ⟨b, o, e, k1, k2⟩ := h.get j hj'
    cases e
    rw [Nat.zero_add] at k1 k2
    rw [Nat.zero_add, List.getElem_set]
    unfold put2
    by_cases e : i = j
    · subst e
      rw [if_pos rfl, World.cell?_setCell_same' _ _ _ (by rw [cell_oth _ _ _ _ _ (by omega), k2]; rfl)]
    · rw [if_neg e, cell_oth _ _ _ _ _ (by omega), cell_oth _ _ _ _ _ (by omega)]
      exact k2
section
variable {B : Nat} {w : World} {wb hp hd base : Nat} {cells : Int} {S : Nat} {first : Int} {v : Value} {ts : List Th} {vp : Value} {ps : List Cl} {vq : Value} {qs : List Cl} {next : Int} {D : Doc} {mp : Option Nat} {q : Int → Option Addr} {ks : List Int} {R : Int → Int → Prop}
/-- A field is set, on both sides. -/
theorem Jt.set (h : Jt B w wb hp hd base cells S first v ts vp ps vq qs next D mp q ks R) {x y : Int} (hR : R x y) {t u : Th} (hx : docOf first ts x = some t) (hy : D y = some u) {i g : Nat} (hi : i < u.fs.length) (hq : q y = some ⟨g, 0, none⟩) {a b : Cl} (hab : CellIso R a b) (hb : wfC b)
    {w1 : World} {ts1 : List Th} (hh : HpO w1 hp cells first v (encL (fun _ => 0) first ts1)) (hcl : Closed first ts1) (hoth : ∀ t ∈ ts1, okTh t) (hdoc : docOf first ts1 = upd (docOf first ts) x (some ⟨t.kind, t.tag, t.fs.set i a⟩)) (hk : Kp v.ownBlock.toList w w1) :
    Jt B (put2 w1 g (i * 2) b) wb hp hd base cells S first v ts1 vp ps vq qs next (upd D y (some ⟨u.kind, u.tag, u.fs.set i b⟩)) mp q ks R ∧ Below B w (put2 w1 g (i * 2) b) ∧ w1.cell? ⟨g, i * 2, none⟩ = some (.bool (u.fs[i]'hi).p) ∧ w1.cell? ⟨g, i * 2 + 1, none⟩ = some (.int .i64 (u.fs[i]'hi).n) ∧ (∀ o, w1.frozen? ⟨g, o, none⟩ = false) := by
  have hlt := h.lt
  have hoff := fun k (hk : v.ownBlock = some k) => h.docOff (k := k) (Or.inr (Or.inl hk))
  obtain ⟨_, gp, gq, cur, hgo⟩ := h.qr y u _ hy hq
  simp only at gp gq hgo
  have hgl := (Array.getElem?_eq_some_iff.1 hgo).1
  have hk0 : Kp v.ownBlock.toList w w1 := hk
  have hgo1 : w1.heap[g]? = some (.cells cur 50) := (hk.block g hgl (fun hx => (hoff g (by simpa using hx)).2.2.1 y u _ hy hq rfl)).trans hgo
  have hk2 : Kp (v.ownBlock.toList ++ [g]) w (put2 w1 g (i * 2) b) := (hk.mono (by simp; exact fun a h => Or.inl h)).trans ((put2_kp w1 g (i * 2) b).mono (by simp))
  have hXo : ∀ k ∈ v.ownBlock.toList ++ [g], v.ownBlock = some k ∨ k = g := fun k hk => by simpa using hk
  have hgw : g ≠ wb := fun e => by
    rw [e, h.ms.box] at hgo
    simp at hgo
  have hgh : g ≠ hp := fun e => by
    rw [e, h.hh.box] at hgo
    simp at hgo
  have hgd : g ≠ hd := fun e => by
    rw [e, h.dc.box] at hgo
    simp at hgo
  have hDu : ∀ b' t', upd D y (some ⟨u.kind, u.tag, u.fs.set i b⟩) b' = some t' → ∃ t0, D b' = some t0 ∧ t'.fs.length = t0.fs.length := fun b' t' hb' => by
    by_cases e : b' = y
    · subst e
      rw [upd_same] at hb'
      cases hb'
      exact ⟨u, hy, by simp⟩
    · rw [upd_other _ _ e] at hb'
      exact ⟨t', hb', rfl⟩
  have hrow := h.dc.rows y u hy
  have hrow1 : RowC w1 (some ⟨g, 0, none⟩) u.fs := by
    have h1 := hrow.1
    rw [hq] at h1
    exact h1.kp hk (fun a ha hx => by
      cases ha
      exact (hoff g (by simpa using hx)).2.2.1 y u _ hy hq rfl)
  have hmn : ∀ k, mp = some k → k ∉ v.ownBlock.toList ++ [g] := fun k e hx => by
    rcases hXo k hx with e2 | e2
    · exact (hoff k e2).2.1 e
    · subst e2
      rcases h.dc.map with ⟨e3, _⟩ | ⟨mb, e3, hm⟩
      · rw [e3] at e
        cases e
      · rw [e3] at e
        cases e
        obtain ⟨Dm, ⟨es, clock, k1, _⟩, _⟩ := hm
        rw [hgo] at k1
        cases k1
  have hP1 : ∀ z, (docOf first ts1 z).isSome = (docOf first ts z).isSome := fun z => by
    rw [hdoc]
    unfold upd
    split
    · rename_i e
      rw [e, hx]
      rfl
    · rfl
  obtain ⟨b0, o0, e0, c0, c1⟩ := hrow1.get i hi
  cases e0
  rw [Nat.zero_add] at c0 c1
  refine ⟨⟨h.ms.kp hk2 (fun k hk3 => ?_), hh.kp (put2_kp w1 g (i * 2) b) (by simpa using Ne.symm hgh) (fun k hk3 => ?_), ⟨?_, ?_, h.dc.nd, fun z => ?_, fun z t' hz => ?_⟩, ?_, hcl, h.wfp, h.wfq, hoth, fun b' t' a' hb' hq' => ?_, fun b1 b2 t1 t2 a1 a2 k1 k2 k3 k4 k5 => ?_, h.nx, h.kl, ?_, h.fs, h.pl, h.ok, h.sl, ⟨h.lb.1, h.lb.2.1, h.lb.2.2.1, h.lb.2.2.2.1, h.lb.2.2.2.2.1, h.lb.2.2.2.2.2.1, fun b' t' a' hb' hq' => ?_⟩⟩, hk2.below (by omega) (fun k hk3 => ?_), c0, c1, fun o => by simp [World.frozen?, hgo1]⟩
  · rcases hXo k hk3 with e | e
    · exact ⟨(hoff k e).2.2.2.1, fun e2 => by
        obtain ⟨c2, hc2⟩ := h.ms.p.obj e2
        exact h.hh.own.ne hc2 (by decide) e, (hoff k e).2.2.2.2⟩
    · subst e
      exact ⟨hgw, gp, gq⟩
  · simp
    intro e
    subst e
    exact h.hh.own.ne hgo (by decide) hk3
  · exact (hk2.block hd (Array.getElem?_eq_some_iff.1 h.dc.box).1 (fun hx => by
      rcases hXo hd hx with e | e
      · exact (hoff hd e).1 rfl
      · exact hgd e.symm)).trans h.dc.box
  · rcases h.dc.map with hm | ⟨mb, e, hm⟩
    · exact Or.inl hm
    · refine Or.inr ⟨mb, e, ?_⟩
      have hf : (fun b' => (upd D y (some ⟨u.kind, u.tag, u.fs.set i b⟩) b').map (thV (q b'))) = fun b' => (D b').map (thV (q b')) := by
        funext b'
        by_cases e2 : b' = y
        · subst e2
          rw [upd_same, hy]
          simp [thV]
        · rw [upd_other _ _ e2]
      rw [hf]
      exact hm.kp hk2 (hmn mb e)
  · rw [← h.dc.keys z]
    by_cases e : z = y
    · subst e
      rw [upd_same, hy]
      simp
    · rw [upd_other _ _ e]
  · by_cases e : z = y
    · subst e
      rw [upd_same] at hz
      cases hz
      refine ⟨?_, fun e2 => ?_, fun c hc => ?_⟩
      · rw [hq]
        exact hrow1.set i b
      · rw [hq] at e2
        cases e2
      · rcases List.mem_or_eq_of_mem_set hc with hc | hc
        · exact hrow.2.2 c hc
        · rw [hc]
          exact hb
    · rw [upd_other _ _ e] at hz
      obtain ⟨r1, r2, r3⟩ := h.dc.rows z t' hz
      refine ⟨r1.kp hk2 (fun a' ha' hx => ?_), r2, r3⟩
      rcases hXo _ hx with e2 | e2
      · exact (hoff _ e2).2.2.1 z t' a' hz ha' rfl
      · exact e (h.qi z y t' u a' _ hz hy ha' hq e2)
  · rw [hdoc]
    exact h.iso.set hR hx hy i hab
  · obtain ⟨t0, ht0, _⟩ := hDu b' t' hb'
    obtain ⟨k1, k2, k3, c2, k4⟩ := h.qr b' t0 a' ht0 hq'
    by_cases e : a'.block = g
    · refine ⟨k1, k2, k3, (cur.setIfInBounds (i * 2) (.bool b.p)).setIfInBounds (i * 2 + 1) (.int .i64 b.n), ?_⟩
      rw [e]
      simp [put2, World.setCell, Array.getElem?_modify, hgo1]
    · refine ⟨k1, k2, k3, c2, (hk2.block _ (Array.getElem?_eq_some_iff.1 k4).1 (fun hx => ?_)).trans k4⟩
      rcases hXo _ hx with e2 | e2
      · exact (hoff _ e2).2.2.1 b' t0 a' ht0 hq' rfl
      · exact e e2
  · obtain ⟨t3, ht3, _⟩ := hDu b1 t1 k1
    obtain ⟨t4, ht4, _⟩ := hDu b2 t2 k2
    exact h.qi b1 b2 t3 t4 a1 a2 ht3 ht4 k3 k4 k5
  · have : ∀ U : List Int, cellsT (upd D y (some ⟨u.kind, u.tag, u.fs.set i b⟩)) U = cellsT D U := fun U => by
      induction U with
      | nil => rfl
      | cons z U ih =>
        rw [cellsT, cellsT, ih]
        have : (fsOf (upd D y (some ⟨u.kind, u.tag, u.fs.set i b⟩)) z).length = (fsOf D z).length := by
          unfold fsOf
          by_cases e : z = y
          · subst e
            rw [upd_same, hy]
            simp
          · rw [upd_other _ _ e]
        rw [this]
    rw [this]
    exact h.cs
  · obtain ⟨t0, ht0, _⟩ := hDu b' t' hb'
    exact h.lb.2.2.2.2.2.2 b' t0 a' ht0 hq'
  · rcases hXo k hk3 with e | e
    · exact h.lb.2.2.2.2.1 k e
    · subst e
      exact h.lb.2.2.2.2.2.2 y u _ hy hq
end
end Go.Proofs.Ytfeopoamednidaa
namespace Go.Proofs.Ytfeopoamednidaa
open Go.RowKit Go.Deep Go.IntWalk
section
variable {B : Nat} {w : World} {wb hp hd base : Nat} {cells : Int} {S : Nat} {first : Int} {v : Value} {ts : List Th} {vp : Value} {ps : List Cl} {vq : Value} {qs : List Cl} {next : Int} {D : Doc} {mp : Option Nat} {q : Int → Option Addr} {ks : List Int} {R : Int → Int → Prop}
theorem Jt.kp (h : Jt B w wb hp hd base cells S first v ts vp ps vq qs next D mp q ks R) {w1 : World} (hk : Kp [] w w1) : Jt B w1 wb hp hd base cells S first v ts vp ps vq qs next D mp q ks R :=
  ⟨h.ms.kp hk (by simp), h.hh.kp hk (by simp) (by simp), h.dc.kp hk (by simp) (by simp) (by simp), h.iso, h.cl, h.wfp, h.wfq, h.oth, fun b t a hb hq => by
    obtain ⟨k1, k2, k3, cur, k4⟩ := h.qr b t a hb hq
    exact ⟨k1, k2, k3, cur, (hk.block _ (Array.getElem?_eq_some_iff.1 k4).1 (by simp)).trans k4⟩, h.qi, h.nx, h.kl, h.cs, h.fs, h.pl, h.ok, h.sl, h.lb⟩
theorem Jt.up (h : Jt B w wb hp hd base cells S first v ts vp ps vq qs next D mp q ks R) (hS : S + 1 ≤ 3000000000000) : Jt B w wb hp hd base cells (S + 1) first v ts vp ps vq qs next D mp q ks R :=
  ⟨h.ms, h.hh, h.dc, h.iso, h.cl, h.wfp, h.wfq, h.oth, h.qr, h.qi, ⟨h.nx.1, by have := h.nx; omega⟩, h.kl, h.cs, by have := h.fs; omega, by have := h.pl; omega, h.ok, hS, h.lb⟩
end
/-- What a step leaves: true, and both sides together. -/
inductive StepPost (B : Nat) (w : World) (wb hp hd base : Nat) (cells : Int) (S : Nat) : Ending → World → Prop
  | mk (w' : World) (first : Int) (v : Value) (ts : List Th) (vp : Value) (ps : List Cl) (vq : Value) (qs : List Cl) (next : Int) (D : Doc) (mp : Option Nat) (q : Int → Option Addr) (ks : List Int) (R : Int → Int → Prop) (h : Jt B w' wb hp hd base cells (S + 1) first v ts vp ps vq qs next D mp q ks R) (hb : Below B w w') : StepPost B w wb hp hd base cells S (.returned (.bool true)) w'
/-- A row of numbers that came in. -/
structure RowI (B : Nat) (w : World) (p : Option Addr) (l : List Int) : Prop where
  get : ∀ i (hi : i < l.length), ∃ b o, p = some ⟨b, o, none⟩ ∧ b < B ∧ w.cell? ⟨b, o + i, none⟩ = some (.int .i64 (l[i]'hi)) ∧ (Lit.int .i64 (l[i]'hi)).wf = true
theorem RowI.below {B : Nat} {w w' : World} {p : Option Addr} {l : List Int} (h : RowI B w p l) (hk : Below B w w') : RowI B w' p l := ⟨fun i hi => by
  obtain ⟨b, o, h1, h2, h3, h4⟩ := h.get i hi
  exact ⟨b, o, h1, h2, (hk.cell (p := ⟨b, o + i, none⟩) h2).trans h3, h4⟩⟩
section
variable {B : Nat} {w : World} {wb hp hd base : Nat} {cells : Int} {S : Nat} {first : Int} {v : Value} {ts : List Th} {vp : Value} {ps : List Cl} {vq : Value} {qs : List Cl} {next : Int} {D : Doc} {mp : Option Nat} {q : Int → Option Addr} {ks : List Int} {R : Int → Int → Prop}
/-- What the two Makes leave, one behind the other. -/
inductive BothMade (B : Nat) (w : World) (wb hp hd base : Nat) (cells : Int) (S : Nat) (kind tag n : Int) (e f : Ending) (w' : World) : Prop
  | no (k : Int) (hk : k ≠ 0) (he : e = .returned (.tuple #[.int .i64 0, .int .i64 k])) (hf : f = .returned (.tuple #[.int .i64 0, .int .i64 k])) (hst : StepPost B w wb hp hd base cells S (.returned (.bool true)) w') : BothMade B w wb hp hd base cells S kind tag n e f w'
  | new (m : Nat) (hn : n = m) (hm : m ≤ 1000000) (x y : Int) (he : e = .returned (.tuple #[.int .i64 x, .int .i64 0])) (hf : f = .returned (.tuple #[.int .i64 y, .int .i64 0])) (first : Int) (v : Value) (ts : List Th) (vp : Value) (ps : List Cl) (vq : Value) (qs : List Cl) (next : Int) (D : Doc) (mp : Option Nat) (q : Int → Option Addr) (ks : List Int) (R : Int → Int → Prop)
      (h : Jt B w' wb hp hd base cells (S + 1) first v ts vp ps vq qs next D mp q ks R) (hb : Below B w w') (hl : ps.length + 1 ≤ S + 1) (hx : docOf first ts x = some ⟨kind, tag, List.replicate m default⟩) (hy : D y = some ⟨kind, tag, List.replicate m default⟩) (hrx : ∀ z, ¬ R x z) (hry : ∀ z, ¬ R z y) (hwx : (Lit.int .i64 x).wf = true) (hwy : (Lit.int .i64 y).wf = true) : BothMade B w wb hp hd base cells S kind tag n e f w'
end
end Go.Proofs.Ytfeopoamednidaa
