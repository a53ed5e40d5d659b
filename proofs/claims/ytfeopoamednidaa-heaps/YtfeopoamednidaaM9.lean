/-
  fits.
-/
import Derived.Test.YtfeopoamednidaaM8
import Derived.Test.YtfeopoamednidaaRegT
namespace Go.Proofs.Ytfeopoamednidaa
open Go.RowKit Go.Deep Go.IntWalk
theorem CollectPost.undrew {w : World} {hb : Nat} {cells first : Int} {v : Value} {ts : List Th} {rs : List Cl} {base : Nat} {rv : Value} {e : Ending} {w' : World} (h : CollectPost w.drew hb cells first v ts rs base rv e w') : CollectPost w hb cells first v ts rs base rv e w' := by
  cases h with
  | mk V v' w' hn hV hs hh hr hk hf => exact CollectPost.mk V v' w' hn hV hs hh hr ⟨hk.os, hk.tape, hk.output, hk.size, hk.block⟩ hf
inductive FitsPost (w : World) (hb : Nat) (cells first : Int) (v : Value) (ts : List Th) (rs : List Cl) (base : Nat) (rv : Value) (k : Int) : Ending → World → Prop
  | no (h : cells < k) (w' : World) (hw : Below w.heap.size w w') : FitsPost w hb cells first v ts rs base rv k (.returned (.bool false)) w'
  | yes (h : k ≤ cells - total ts) (w' : World) (hw : Below w.heap.size w w') : FitsPost w hb cells first v ts rs base rv k (.returned (.bool true)) w'
  | coll (h : ¬ k ≤ cells - total ts) (n : Nat) (w' : World) (hc : CollectPost w hb cells first v ts rs base rv (.returned (.int .i64 n)) w') : FitsPost w hb cells first v ts rs base rv k (.returned (.bool (decide (k ≤ cells - n)))) w'
theorem anyL_after {P : Program} {ops : Array Oper} {Q : Exit → Act → World → Prop} {md : Region.Mode} {C : World → Prop} {m i : Nat} {o : Oper} {n : Nat} {listed : Array Bool} {a : Act} {w : World} (hm : listed.getD m true = true) (hi : ops[i]? = some o) (hr : Region.ready md ops listed = [i]) (h : ∀ K : Act → World → Prop, (∀ a w, anyL P md ops Q C m n (listed.setIfInBounds i true) a w → K a w) → if Region.wanted o (yielded ops a.tmps) then o.wp P a w K Q else K (a.put o.dst undef) w) : anyL P md ops Q C m (n + 1) listed a w :=
  anyL_all (fun h0 => by rw [hm] at h0; cases h0) hr (by simp) (fun j hj => by
    obtain rfl : j = i := by simpa using hj
    exact anyL_op hi h)
theorem CollectPost.box {w : World} {hb : Nat} {cells first : Int} {v : Value} {ts : List Th} {rs : List Cl} {base : Nat} {rv : Value} {e : Ending} {w' : World} (h : CollectPost w hb cells first v ts rs base rv e w') : w'.cell? ⟨hb, 0, none⟩ = some (.int .i64 cells) ∧ hb < w'.heap.size ∧ ∃ n : Nat, e = .returned (.int .i64 n) ∧ n ≤ total ts := by
  cases h with
  | mk V v' w' hn hV hs hh hr hk hf => exact ⟨by have := hh.box; simp only [World.cell?, this]; rfl, (Array.getElem?_eq_some_iff.1 hh.box).1, _, rfl, cells_le hn hs⟩
section
set_option maxHeartbeats 8000000
set_option maxRecDepth 100000
theorem fits_any (w : World) (hb : Nat) (cells first : Int) (v : Value) (ts : List Th) (h : HpO w hb cells first v (encL (fun _ => 0) first ts)) (hcs : 0 ≤ cells ∧ cells ≤ 1000000) (hf : first ≤ 8000000000000000000) (hc : Closed first ts) (rs : List Cl) (hro : RootsOk (docOf first ts) rs) (base : Nat) (rv : Value) (wb : Nat) (h0 h1 h3 : Value) (hW : w.heap[wb]? = some (.cells #[h0, h1, rv, h3] 34)) (hr : OwnC w base rv rs) (hl : rs.length ≤ 9000000000000) (k : Int) (hk : 1 ≤ k ∧ k ≤ 1000001) :
    Calls Try.prog 27 #[.pointer (some ⟨hb, 0, none⟩), .int .i64 k, .func (.func 10) #[.pointer (some ⟨wb, 0, none⟩)] #[]] w fun e w' => FitsPost w hb cells first v ts rs base rv k e w' := by
  have Hcall : Hid (Calls Try.prog 9 #[.pointer (some ⟨hb, 0, none⟩), .func (.func 10) #[.pointer (some ⟨wb, 0, none⟩)] #[]] w.drew fun e w' => CollectPost w hb cells first v ts rs base rv e w') :=
    Calls.mono (collect_any w.drew hb cells first v ts (h.kp ((Kp.refl [] w).drew) (by simp) (by simp)) hf hc rs hro base rv wb h0 h1 h3 hW (hr.keep (fun _ _ => rfl)) hl) (fun e w' g => g.undrew)
  obtain ⟨p, cap, rfl, hA, ha⟩ := h.at
  have htot : total ts ≤ 1000000 := by have := h.len; rwa [encL_len] at this
  rw [encL_len] at *
  obtain ⟨c0, c1, c2, c3⟩ := hA.cells
  rw [encL_len] at c2
  have hbx := h.box
  have H : Hid (HpO w hb cells first (.slice p (total ts) cap) (encL (fun _ => 0) first ts)) := h
  have HN : Hid (∀ n, Below w.heap.size w (w.drewN n)) := fun n => ((Kp.refl [] w).drewN n).below (Nat.le_refl _) (by simp)
  have w1 : wrap64 (cells - (total ts : Int)) = cells - total ts := wrap64_in _ (by omega)
  have w1b : IntKind.i64.wrap (cells - (total ts : Int)) = cells - total ts := i64_in _ (by omega)
  clear h hA ha hc hro hW hr hbx
  by_cases hn : cells < k
  · have Q : Hid (∀ n, FitsPost w hb cells first (.slice p (total ts) cap) ts rs base rv k (.returned (.bool false)) (w.drewN n)) := fun n => FitsPost.no hn _ (HN.out n)
    clear Hcall H w1 w1b HN
    go_enter Try.func27, Try.ntmps27
    go_wp2_with fail
    exact bodyPost_ret (by simp [results, Try.results27, go_sem]) rfl (Q.out 0)
  · by_cases hy : k ≤ cells - total ts
    · have Q : Hid (∀ n, FitsPost w hb cells first (.slice p (total ts) cap) ts rs base rv k (.returned (.bool true)) (w.drewN n)) := fun n => FitsPost.yes hy _ (HN.out n)
      clear Hcall H HN
      go_enter Try.func27, Try.ntmps27
      go_wp2_with fail
      go_quiet (fail)
      go_wp2
      exact bodyPost_ret (by simp [results, Try.results27, go_sem]) rfl (Q.out _)
    · have HC0 : Hid (w.cell? ⟨hb, 0, none⟩ = some (.int .i64 cells) ∧ w.cell? ⟨hb, 2, none⟩ = some (.slice p (total ts) cap) ∧ hb < w.heap.size) := ⟨c0, c2, c3⟩
      clear H HN c1
      go_enter Try.func27, Try.ntmps27
      go_upto_region 3 with fail
      clear c0 c2 c3
      refine region_last 20 (C := fun wx => wx.cell? ⟨hb, 0, none⟩ = some (.int .i64 cells) ∧ wx.cell? ⟨hb, 2, none⟩ = some (.slice p (total ts) cap) ∧ hb < wx.heap.size) (by kernel_rfl) ?_
      refine anyL_readT 13 (i := 0) rfl (by kernel_rfl) (by kernel_rfl) (by kernel_rfl) (by kernel_rfl) (fun _ _ _ _ h => h) ?_
      apply Exists.intro
      refine ⟨Or.inl ⟨by rfl, fun wx hwx => ?_⟩, ?_⟩
      (obtain ⟨f0, f1, f2⟩ := hwx; go_simp; first | done | with_reducible rfl)
      refine anyL_readT 13 (i := 1) rfl (by kernel_rfl) (by kernel_rfl) (by kernel_rfl) (by kernel_rfl) (fun _ _ _ _ h => h) ?_
      apply Exists.intro
      refine ⟨Or.inl ⟨by rfl, fun wx hwx => ?_⟩, ?_⟩
      (obtain ⟨f0, f1, f2⟩ := hwx; go_simp; first | done | with_reducible rfl)
      refine anyL_readT 13 (i := 2) rfl (by kernel_rfl) (by kernel_rfl) (by kernel_rfl) (by kernel_rfl) (fun _ _ _ _ h => h) ?_
      apply Exists.intro
      refine ⟨Or.inl ⟨by rfl, fun wx hwx => ?_⟩, ?_⟩
      (obtain ⟨f0, f1, f2⟩ := hwx; go_simp; first | done | with_reducible rfl)
      refine anyL_readT 13 (i := 3) rfl (by kernel_rfl) (by kernel_rfl) (by kernel_rfl) (by kernel_rfl) (fun _ _ _ _ h => h) ?_
      apply Exists.intro
      refine ⟨Or.inl ⟨by rfl, fun wx hwx => ?_⟩, ?_⟩
      (obtain ⟨f0, f1, f2⟩ := hwx; go_simp; first | done | with_reducible rfl)
      refine anyL_readT 13 (i := 4) rfl (by kernel_rfl) (by kernel_rfl) (by kernel_rfl) (by kernel_rfl) (fun _ _ _ _ h => h) ?_
      apply Exists.intro
      refine ⟨Or.inl ⟨by rfl, fun wx hwx => ?_⟩, ?_⟩
      (obtain ⟨f0, f1, f2⟩ := hwx; go_simp; first | done | with_reducible rfl)
      refine anyL_readT 13 (i := 5) rfl (by kernel_rfl) (by kernel_rfl) (by kernel_rfl) (by kernel_rfl) (fun _ _ _ _ h => h) ?_
      apply Exists.intro
      refine ⟨Or.inl ⟨by rfl, fun wx hwx => ?_⟩, ?_⟩
      (obtain ⟨f0, f1, f2⟩ := hwx; go_simp; first | done | with_reducible rfl)
      refine anyL_readT 13 (i := 6) rfl (by kernel_rfl) (by kernel_rfl) (by kernel_rfl) (by kernel_rfl) (fun _ _ _ _ h => h) ?_
      apply Exists.intro
      refine ⟨Or.inl ⟨by rfl, fun wx hwx => ?_⟩, ?_⟩
      (obtain ⟨f0, f1, f2⟩ := hwx; go_simp; first | done | with_reducible rfl)
      refine anyL_readT 13 (i := 7) rfl (by kernel_rfl) (by kernel_rfl) (by kernel_rfl) (by kernel_rfl) (fun _ _ _ _ h => h) ?_
      apply Exists.intro
      refine ⟨Or.inl ⟨by rfl, fun wx hwx => ?_⟩, ?_⟩
      (obtain ⟨f0, f1, f2⟩ := hwx; go_simp; first | done | with_reducible rfl)
      refine anyL_readT 13 (i := 8) rfl (by kernel_rfl) (by kernel_rfl) (by kernel_rfl) (by kernel_rfl) (fun _ _ _ _ h => h) ?_
      apply Exists.intro
      refine ⟨Or.inl ⟨by rfl, fun wx hwx => ?_⟩, ?_⟩
      (obtain ⟨f0, f1, f2⟩ := hwx; go_simp; first | done | with_reducible rfl)
      refine anyL_readT 13 (i := 9) rfl (by kernel_rfl) (by kernel_rfl) (by kernel_rfl) (by kernel_rfl) (fun _ _ _ _ h => h) ?_
      apply Exists.intro
      refine ⟨Or.inl ⟨by rfl, fun wx hwx => ?_⟩, ?_⟩
      (obtain ⟨f0, f1, f2⟩ := hwx; go_simp; first | done | with_reducible rfl)
      refine anyL_readT 13 (i := 10) rfl (by kernel_rfl) (by kernel_rfl) (by kernel_rfl) (by kernel_rfl) (fun _ _ _ _ h => h) ?_
      apply Exists.intro
      refine ⟨Or.inl ⟨by rfl, fun wx hwx => ?_⟩, ?_⟩
      (obtain ⟨f0, f1, f2⟩ := hwx; go_simp; first | done | with_reducible rfl)
      refine anyL_readT 13 (i := 11) rfl (by kernel_rfl) (by kernel_rfl) (by kernel_rfl) (by kernel_rfl) (fun _ _ _ _ h => h) ?_
      apply Exists.intro
      refine ⟨Or.inl ⟨by rfl, fun wx hwx => ?_⟩, ?_⟩
      (obtain ⟨f0, f1, f2⟩ := hwx; go_simp; first | done | with_reducible rfl)
      refine anyL_readT 13 (i := 12) rfl (by kernel_rfl) (by kernel_rfl) (by kernel_rfl) (by kernel_rfl) (fun _ _ _ _ h => h) ?_
      apply Exists.intro
      refine ⟨Or.inl ⟨by rfl, fun wx hwx => ?_⟩, ?_⟩
      (obtain ⟨f0, f1, f2⟩ := hwx; go_simp; first | done | with_reducible rfl)
      go_simp
      refine anyL_pure (i := 13) rfl (by kernel_rfl) (by kernel_rfl) (by kernel_rfl) (by kernel_rfl) (fun _ _ _ _ h => h) ?_
      apply Exists.intro
      refine ⟨Or.inl ⟨by rfl, fun wx hwx => ?_⟩, ?_⟩
      (go_simp; first | done | with_reducible rfl)
      refine anyL_pure (i := 14) rfl (by kernel_rfl) (by kernel_rfl) (by kernel_rfl) (by kernel_rfl) (fun _ _ _ _ h => h) ?_
      apply Exists.intro
      refine ⟨Or.inl ⟨by rfl, fun wx hwx => ?_⟩, ?_⟩
      (go_simp; first | done | with_reducible rfl)
      refine anyL_pure (i := 15) rfl (by kernel_rfl) (by kernel_rfl) (by kernel_rfl) (by kernel_rfl) (fun _ _ _ _ h => h) ?_
      apply Exists.intro
      refine ⟨Or.inl ⟨by rfl, fun wx hwx => ?_⟩, ?_⟩
      (go_simp; first | done | with_reducible rfl)
      refine anyL_pure (i := 16) rfl (by kernel_rfl) (by kernel_rfl) (by kernel_rfl) (by kernel_rfl) (fun _ _ _ _ h => h) ?_
      apply Exists.intro
      refine ⟨Or.inl ⟨by rfl, fun wx hwx => ?_⟩, ?_⟩
      (go_simp; first | done | with_reducible rfl)
      refine anyL_readT 13 (i := 18) rfl (by kernel_rfl) (by kernel_rfl) (by kernel_rfl) (by kernel_rfl) (fun _ _ _ _ h => h) ?_
      apply Exists.intro
      refine ⟨Or.inl ⟨by rfl, fun wx hwx => ?_⟩, ?_⟩
      (obtain ⟨f0, f1, f2⟩ := hwx; go_simp; first | done | with_reducible rfl)
      refine anyL_readT 13 (i := 19) rfl (by kernel_rfl) (by kernel_rfl) (by kernel_rfl) (by kernel_rfl) (fun _ _ _ _ h => h) ?_
      apply Exists.intro
      refine ⟨Or.inl ⟨by rfl, fun wx hwx => ?_⟩, ?_⟩
      (obtain ⟨f0, f1, f2⟩ := hwx; go_simp; first | done | with_reducible rfl)
      go_simp
      refine anyL_all (rs := [17, 20]) (fun _ => HC0.out) (by kernel_rfl) (by simp) ?_
      intro i hi
      have hi3 : i = 17 ∨ i = 20 := by simpa using hi
      clear hi
      rcases hi3 with rfl | rfl
      · refine anyL_op (o := ?o1) ?ha1 ?hb1
        case ha1 => rfl
        intro K hK
        obtain ⟨f0, f1, f2⟩ := HC0.out
        go_simp
        refine hK _ _ ?_
        clear hK K f0 f1 f2
        refine anyL_one (i := 20) (o := ?o2) HC0.out ?ha2 (by kernel_rfl) ?hb2
        case ha2 => rfl
        intro K hK
        go_simp
        refine Calls.mono Hcall.out ?_
        intro e w2 hCP
        obtain ⟨g0, g1, n, rfl, hnt⟩ := hCP.box
        refine hK _ _ ?_
        clear hK K
        have HCP : Hid (CollectPost w hb cells first (.slice p (total ts) cap) ts rs base rv (.returned (.int .i64 n)) w2) := hCP
        have Q : Hid (FitsPost w hb cells first (.slice p (total ts) cap) ts rs base rv k (.returned (.bool (decide (k ≤ cells - n)))) w2) := FitsPost.coll hy n w2 hCP
        have w2' : wrap64 (cells - (n : Int)) = cells - n := wrap64_in _ (by omega)
        have w2b : IntKind.i64.wrap (cells - (n : Int)) = cells - n := i64_in _ (by omega)
        clear hCP
        clear g0 g1
        refine anyL_after (i := 21) (o := ?o3) (by kernel_rfl) ?ha3 (by kernel_rfl) ?hb3
        case ha3 => rfl
        intro K hK
        go_simp
        refine hK _ _ ?_
        clear hK K
        refine anyL_after (i := 22) (o := ?o4) (by kernel_rfl) ?ha4 (by kernel_rfl) ?hb4
        case ha4 => rfl
        intro K hK
        go_simp
        refine hK _ _ ?_
        clear hK K
        refine anyL_after (i := 23) (o := ?o5) (by kernel_rfl) ?ha5 (by kernel_rfl) ?hb5
        case ha5 => rfl
        intro K hK
        go_simp
        refine hK _ _ ?_
        clear hK K
        refine anyL_after (i := 24) (o := ?o6) (by kernel_rfl) ?ha6 (by kernel_rfl) ?hb6
        case ha6 => rfl
        intro K hK
        go_simp
        refine hK _ _ ?_
        clear hK K
        refine anyL_done (by kernel_rfl) (by kernel_rfl) ?_
        go_wp2
        exact bodyPost_ret (by simp [results, Try.results27, go_sem]) rfl Q.out
      · refine anyL_op (o := ?o7) ?ha7 ?hb7
        case ha7 => rfl
        intro K hK
        go_simp
        refine Calls.mono Hcall.out ?_
        intro e w2 hCP
        obtain ⟨g0, g1, n, rfl, hnt⟩ := hCP.box
        refine hK _ _ ?_
        clear hK K
        have HCP : Hid (CollectPost w hb cells first (.slice p (total ts) cap) ts rs base rv (.returned (.int .i64 n)) w2) := hCP
        have Q : Hid (FitsPost w hb cells first (.slice p (total ts) cap) ts rs base rv k (.returned (.bool (decide (k ≤ cells - n)))) w2) := FitsPost.coll hy n w2 hCP
        have w2' : wrap64 (cells - (n : Int)) = cells - n := wrap64_in _ (by omega)
        have w2b : IntKind.i64.wrap (cells - (n : Int)) = cells - n := i64_in _ (by omega)
        clear hCP
        refine anyL_after (i := 17) (o := ?o8) (by kernel_rfl) ?ha8 (by kernel_rfl) ?hb8
        case ha8 => rfl
        intro K hK
        go_simp
        refine hK _ _ ?_
        clear hK K
        clear g0 g1
        refine anyL_after (i := 21) (o := ?o9) (by kernel_rfl) ?ha9 (by kernel_rfl) ?hb9
        case ha9 => rfl
        intro K hK
        go_simp
        refine hK _ _ ?_
        clear hK K
        refine anyL_after (i := 22) (o := ?o10) (by kernel_rfl) ?ha10 (by kernel_rfl) ?hb10
        case ha10 => rfl
        intro K hK
        go_simp
        refine hK _ _ ?_
        clear hK K
        refine anyL_after (i := 23) (o := ?o11) (by kernel_rfl) ?ha11 (by kernel_rfl) ?hb11
        case ha11 => rfl
        intro K hK
        go_simp
        refine hK _ _ ?_
        clear hK K
        refine anyL_after (i := 24) (o := ?o12) (by kernel_rfl) ?ha12 (by kernel_rfl) ?hb12
        case ha12 => rfl
        intro K hK
        go_simp
        refine hK _ _ ?_
        clear hK K
        refine anyL_done (by kernel_rfl) (by kernel_rfl) ?_
        go_wp2
        exact bodyPost_ret (by simp [results, Try.results27, go_sem]) rfl Q.out
end
end Go.Proofs.Ytfeopoamednidaa
