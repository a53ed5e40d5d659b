/-
  The roots are moved (move.roots).
-/
import Derived.Test.YtfeopoamednidaaM6
namespace Go.Proofs.Ytfeopoamednidaa
open Go.RowKit Go.Deep Go.Shelf Go.IntWalk
attribute [local go_sem] Oper.semAt_some
theorem eql47 (gf : Nat) (fa : Array Value) (w : World) : (binOp .eql 47 (.func (.func gf) fa #[]) .nilFunc).run Try.prog w = .ok (.bool false) w := by kernel_rfl
inductive RootsPost (w : World) (mb : Nat) (cells a tf : Int) (ts : List Th) (rs : List Cl) (fv tv0 : Value) (base : Nat) (rv : Value) : Ending → World → Prop
  | mk (v : Value) (w' : World) (tv : Value) (V : List Int) (h : RS w mb cells a tf ts rs fv tv0 base rv w' tv V rs.length) : RootsPost w mb cells a tf ts rs fv tv0 base rv (.returned v) w'
inductive RI (w : World) (mb : Nat) (cells a tf : Int) (ts : List Th) (rs : List Cl) (fv tv0 : Value) (base : Nat) (rv : Value) (i : Nat) (W : World) : Prop
  | mk (tv : Value) (V : List Int) (h : RS w mb cells a tf ts rs fv tv0 base rv W tv V i) (hb : W.heap[w.heap.size]? = some (.cells #[.pointer (some ⟨mb, 0, none⟩)] 84)) : RI w mb cells a tf ts rs fv tv0 base rv i W
theorem OwnC.obj {w : World} {base : Nat} {v : Value} {l : List Cl} (h : OwnC w base v l) {g : Nat} (hg : v.ownBlock = some g) : ∃ cur, w.heap[g]? = some (.cells cur 50) := by
  rcases h.2 with ⟨rfl, h0⟩ | ⟨g', cap, cur, rfl, h1, h2, _⟩
  · cases hg
  · simp [Value.ownBlock] at hg
    subst hg
    exact ⟨cur, h2⟩
theorem OwnW.obj {w : World} {v : Value} {l : List Wd} (h : OwnW w v l) {g : Nat} (hg : v.ownBlock = some g) : ∃ cur, w.heap[g]? = some (.cells cur 79) := by
  rcases h.2 with ⟨rfl, h0⟩ | ⟨g', cap, cur, rfl, h1, h2, _⟩
  · cases hg
  · simp [Value.ownBlock] at hg
    subst hg
    exact ⟨cur, h2⟩
theorem rv_form {w : World} {base : Nat} {rv : Value} {rs : List Cl} (h : OwnC w base rv rs) : ∃ q cap g, rv = .slice q rs.length cap ∧ rs.length ≤ cap ∧ (0 < rs.length → q = some ⟨g, 0, none⟩ ∧ rv.ownBlock = some g) := by
  rcases h.2 with ⟨rfl, h0⟩ | ⟨g, cap, cur, rfl, h1, h2, h3, h4, h5, h6⟩
  · exact ⟨none, 0, 0, by rw [h0], by omega, fun h => by omega⟩
  · exact ⟨some ⟨g, 0, none⟩, cap, g, rfl, h3, fun _ => ⟨rfl, rfl⟩⟩
section
set_option maxHeartbeats 8000000
set_option maxRecDepth 100000
theorem roots_any (w : World) (mb : Nat) (cells a tf : Int) (ts : List Th) (rs : List Cl) (fv tv0 : Value) (base : Nat) (rv : Value) (wb : Nat) (h0 h1 h3 : Value) (hm : Mvg w mb cells a tf ts rs fv tv0 [] 0) (hro : RootsOk (docOf a ts) rs) (hW : w.heap[wb]? = some (.cells #[h0, h1, rv, h3] 34)) (hr : OwnC w base rv rs) (hl : rs.length ≤ 9000000000000) :
    Calls Try.prog 23 #[.pointer (some ⟨mb, 0, none⟩), .func (.func 10) #[.pointer (some ⟨wb, 0, none⟩)] #[]] w fun e w' => RootsPost w mb cells a tf ts rs fv tv0 base rv e w' := by
  obtain ⟨q, cap, g, hrv, hcap, hq⟩ := rv_form hr
  refine (callsIn_wide (n := 4)).1 ?_
  refine callsIn_of_wp_marks Try.func23 rfl trivial ?_ rfl
  simp only [Try.ntmps23, List.size_toArray, List.length_cons, List.length_nil, Nat.reduceAdd, Nat.reduceSub, Array.replicate_succ, Array.replicate_zero, List.push_toArray, List.append_toArray, List.nil_append, List.cons_append]
  have hk1 : Kp [] w (w.alloc (.cells #[.pointer (some ⟨mb, 0, none⟩)] 84)) := Kp.alloc _ _ _
  have hb1 : (w.alloc (.cells #[.pointer (some ⟨mb, 0, none⟩)] 84)).heap[w.heap.size]? = some (.cells #[.pointer (some ⟨mb, 0, none⟩)] 84) := alloc_get w _
  have hs1 : (w.alloc (.cells #[.pointer (some ⟨mb, 0, none⟩)] 84)).heap.size = w.heap.size + 1 := by simp
  have Hk1 : Hid (Kp [] w (w.alloc (.cells #[.pointer (some ⟨mb, 0, none⟩)] 84))) := hk1
  have Hb1 : Hid ((w.alloc (.cells #[.pointer (some ⟨mb, 0, none⟩)] 84)).heap[w.heap.size]? = some (.cells #[.pointer (some ⟨mb, 0, none⟩)] 84)) := hb1
  have Hs1 : Hid ((w.alloc (.cells #[.pointer (some ⟨mb, 0, none⟩)] 84)).heap.size = w.heap.size + 1) := hs1
  have Hm : Hid (Mvg w mb cells a tf ts rs fv tv0 [] 0) := hm
  have HW : Hid (w.heap[wb]? = some (.cells #[h0, h1, rv, h3] 34)) := hW
  have Hr : Hid (OwnC w base rv rs) := hr
  have hnil := eql47
  clear hk1 hb1 hs1 hm hW hr
  gi_wp2
  generalize w.alloc (.cells #[.pointer (some ⟨mb, 0, none⟩)] 84) = w1 at *
  have hs1 : w1.heap.size = w.heap.size + 1 := Hs1.out
  have HsX : Hid (w1.heap.size = w.heap.size + 1) := hs1
  clear hs1 Hs1
  refine range_bound (n := 4) (gf := 10) (fa := #[.pointer (some ⟨wb, 0, none⟩)]) rfl (enters_of Try.func10 (by kernel_rfl) rfl) rs.length (fun i => .pointer (some ⟨g, i * 2, none⟩))
    (RI w mb cells a tf ts rs fv tv0 base rv)
    (fun i => { tmps := #[.pointer (some ⟨mb, 0, none⟩), (Value.func (Fn.func 10) #[Value.pointer (some ⟨wb, 0, none⟩)] #[]), .pointer (some ⟨w.heap.size, 0, none⟩), undef, .pointer (some ⟨g, i * 2, none⟩), (Value.func (Fn.func 10) #[Value.pointer (some ⟨wb, 0, none⟩)] #[]), .bool false, (Value.func (Fn.func 10) #[Value.pointer (some ⟨wb, 0, none⟩)] #[]), .pointer (some ⟨g, i * 2, none⟩), undef, undef, undef, undef, undef, undef, undef, undef, undef, undef, undef, undef, undef, undef, undef, undef, undef], defers := [] }) ?h0 ?hI ?hiter ?assign ?body ?done
  case h0 =>
    intro W hW
    refine ⟨tv0, [], ⟨Hm.out.kp (Hk1.out.trans hW) (by simp) (by simp) (by simp), ?_, (Hk1.out.trans hW).mono (by simp), Or.inl rfl, by simp⟩, (hW.block _ (Array.getElem?_eq_some_iff.1 Hb1.out).1 (by simp)).trans Hb1.out⟩
    rw [rmap_zero]
    exact Hr.out.keep (fun k hk => (Hk1.out.trans hW).block k (Hr.out.block k hk).2 (by simp))
  case hI =>
    rintro i W W' k hk ⟨o, ho, hoc⟩ hw ⟨tv, V, hRS, hbx⟩
    have := HsX.out
    refine ⟨tv, V, hRS.kp (by omega) ⟨o, ho, hoc⟩ hw, (hw.block _ (Array.getElem?_eq_some_iff.1 hbx).1 ?_).trans hbx⟩
    simp
    intro e
    rw [e, ho] at hbx
    cases hbx
    cases hoc
  case hiter =>
    intro l J W hJI hY hJ0
    refine iter10 3 (by omega) wb q rs.length cap g 0 (fun h => (hq h).1) (by omega) hcap l J W (fun i W hj => ?_) (fun i W hi hj => by rw [Nat.zero_add]; exact hY i W hi hj) hJ0
    obtain ⟨tv, V, hRS, hbx⟩ := hJI i W hj
    have hwl := (Array.getElem?_eq_some_iff.1 HW.out).1
    have hwb : W.heap[wb]? = _ := (hRS.k.block wb hwl ?_).trans HW.out
    · exact ⟨by rw [← hrv]; simp only [World.cell?, hwb]; rfl, (Array.getElem?_eq_some_iff.1 hwb).1⟩
    · simp
      refine ⟨fun e => ?_, fun e => Hm.out.mem.fown.ne HW.out (by decide) e, fun e => Hm.out.mem.town.ne HW.out (by decide) e, fun e => Hr.out.ne50 HW.out (by simp) e⟩
      have := Hm.out.mem.box
      rw [← e, HW.out] at this
      cases this
  case assign =>
    intro l i W K hK
    gi_wp2
    exact hK
  case done =>
    rintro D W hD ⟨tv, V, hRS, hbx⟩ hd
    have hsX := HsX.out
    have Q : Hid (∀ v, RootsPost w mb cells a tf ts rs fv tv0 base rv (.returned v) (W.putObj D (.deferred none))) := fun v => RootsPost.mk v _ tv V (hRS.kp (k := D) (by omega) ⟨_, hd, rfl⟩ (Kp.putObj _ _ (by simp) _))
    refine ⟨by simp, .inl ⟨_, _, rfl, run_takeDeferred hd, ?_⟩⟩
    refine ⟨by simp, .inr ⟨by simp [Fence.wide], _, _, 30, #[], rfl, ?_, fun _ _ => trivial, ?_⟩⟩
    · simp [invoke, go_sem]
    · refine CallsDIn.mono (rec30 _ _) ?_
      rintro e u w' ⟨⟨v, rfl⟩, rfl, rfl⟩
      exact ⟨.tuple #[], by simp [results, Try.results23, go_sem], Q.out _⟩
  case body =>
    rintro l i W hlB hi ⟨tv, V, hRS, hbx⟩ ⟨r, hrl⟩
    obtain ⟨rfl, hob⟩ := hq (by omega)
    have hgt := rmap_get (docOf a ts) tf V rs i hi
    have hrl2 := rmap_len (docOf a ts) tf V rs i
    obtain ⟨q2, cap2, hrv2, _, hrow⟩ := OwnC.at hRS.r (by rw [hrl2]; unfold maxLen; omega)
    rw [hrl2] at hrv2
    obtain ⟨b2, o2, hb2, d0, d1⟩ := hrow.get i (by rw [hrl2]; exact hi)
    have hq2 : q2 = some ⟨g, 0, none⟩ := by rw [hrv] at hrv2; cases hrv2; rfl
    rw [hq2] at hb2
    cases hb2
    have hge : (rmap (docOf a ts) tf V rs i)[i]'(by rw [hrl2]; exact hi) = rs[i]'hi := by
      rw [List.getElem?_eq_getElem (by rw [hrl2]; exact hi)] at hgt
      exact Option.some.inj hgt
    rw [hge, Nat.zero_add] at d0 d1
    have hgl := World.block_lt_of_cell? _ _ d0
    simp only at hgl
    have hmem : rs.take (i + 1) = rs.take i ++ [rs[i]'hi] := by rw [List.take_add_one, List.getElem?_eq_getElem hi]; rfl
    have hin : rs[i]'hi ∈ rs := List.getElem_mem hi
    generalize hcc : rs[i]'hi = c at *
    obtain ⟨cp, cn⟩ := c
    simp only at d0 d1
    cases cp with
    | false =>
      have hnx : rmap (docOf a ts) tf V rs (i + 1) = rmap (docOf a ts) tf V rs i := by
        rw [rmap_next _ tf V rs i hi, hcc]
        have e : mvC (fw (docOf a ts) tf V) ⟨false, cn⟩ = ⟨false, cn⟩ := rfl
        rw [e, ← hge, List.set_getElem_self]
      have Q : Hid (RI w mb cells a tf ts rs fv tv0 base rv (i + 1) W) := by
        refine ⟨tv, V, ⟨hRS.m, by rw [hnx]; exact hRS.r, hRS.k, hRS.f, fun x hx => ?_⟩, hbx⟩
        rw [hmem] at hx
        rcases List.mem_append.1 hx with hx | hx
        · exact hRS.s x hx
        · simp at hx
      clear hRS hnx hrow hgt hge hmem hrl hro Hm HW Hr Hk1 Hb1 hbx hrv2 hcc hin hrl2 hq hrv
      gi_wp2
      exact ⟨Q.out, ⟨fun _ _ _ _ h => h⟩⟩
    | true =>
      have hxs := hro cn hin
      have hdk : Kp [] W W.drew := (Kp.refl _ _).drew
      have Hcall : Hid _ := mg_thing W.drew mb cells a tf ts rs fv tv V 0 (hRS.m.kp hdk (by simp) (by simp) (by simp)) cn hxs (Reach.root cn hin)
      have HRS : Hid (RS w mb cells a tf ts rs fv tv0 base rv W tv V i) := hRS
      have Hgt : Hid ((rmap (docOf a ts) tf V rs i)[i]? = some ⟨true, cn⟩) := hgt
      have Hcc : Hid (rs[i]'hi = ⟨true, cn⟩) := hcc
      have Hmem : Hid (rs.take (i + 1) = rs.take i ++ [⟨true, cn⟩]) := hmem
      have Hbx : Hid (W.heap[w.heap.size]? = some (.cells #[.pointer (some ⟨mb, 0, none⟩)] 84)) := hbx
      have Hrv : Hid (rv = .slice (some ⟨g, 0, none⟩) rs.length cap) := hrv
      have Hob : Hid (rv.ownBlock = some g) := hob
      have hfz : W.frozen? ⟨g, i * 2 + 1, none⟩ = false := ownsRow_frozen hRS.r hob _
      have Hfz : Hid (W.frozen? ⟨g, i * 2 + 1, none⟩ = false) := hfz
      clear hrow hgt hge hmem hrl hro Hm HW Hr Hk1 Hb1 hrv2 hcc hin hrl2 hq hrv hRS hob hxs hdk hfz
      have hC0 : (W.cell? ⟨w.heap.size, 0, none⟩ = some (.pointer (some ⟨mb, 0, none⟩)) ∧ w.heap.size < W.heap.size) ∧ W.cell? ⟨g, i * 2 + 1, none⟩ = some (.int .i64 cn) ∧ g < W.heap.size := ⟨⟨by simp only [World.cell?, hbx]; rfl, (Array.getElem?_eq_some_iff.1 hbx).1⟩, d1, hgl⟩
      have HC0 : Hid ((W.cell? ⟨w.heap.size, 0, none⟩ = some (.pointer (some ⟨mb, 0, none⟩)) ∧ w.heap.size < W.heap.size) ∧ W.cell? ⟨g, i * 2 + 1, none⟩ = some (.int .i64 cn) ∧ g < W.heap.size) := hC0
      clear hC0 hbx
      gi_wp2_with fail
      refine region_roundL (m := 9) (C := fun wx => (wx.cell? ⟨w.heap.size, 0, none⟩ = some (.pointer (some ⟨mb, 0, none⟩)) ∧ w.heap.size < wx.heap.size) ∧ wx.cell? ⟨g, i * 2 + 1, none⟩ = some (.int .i64 cn) ∧ g < wx.heap.size) (by kernel_rfl) (by kernel_rfl) ?_ ?_
      · rintro ⟨a9, w9, h9⟩
        exact absurd h9.1 (by simp)
      clear d0 d1 hgl
      refine anyL_read (i := 0) rfl (by kernel_rfl) (by kernel_rfl) (by kernel_rfl) (by kernel_rfl) (fun _ _ _ _ h => h) ?_
      apply Exists.intro
      refine ⟨Or.inl ⟨by rfl, fun wx hwx => ?_⟩, ?_⟩
      (obtain ⟨⟨f0, f1⟩, f2, f3⟩ := hwx; go_simp; first | done | with_reducible rfl)
      refine anyL_read (i := 1) rfl (by kernel_rfl) (by kernel_rfl) (by kernel_rfl) (by kernel_rfl) (fun _ _ _ _ h => h) ?_
      apply Exists.intro
      refine ⟨Or.inl ⟨by rfl, fun wx hwx => ?_⟩, ?_⟩
      (obtain ⟨⟨f0, f1⟩, f2, f3⟩ := hwx; go_simp; first | done | with_reducible rfl)
      refine anyL_read (i := 2) rfl (by kernel_rfl) (by kernel_rfl) (by kernel_rfl) (by kernel_rfl) (fun _ _ _ _ h => h) ?_
      apply Exists.intro
      refine ⟨Or.inl ⟨by rfl, fun wx hwx => ?_⟩, ?_⟩
      (obtain ⟨⟨f0, f1⟩, f2, f3⟩ := hwx; go_simp; first | done | with_reducible rfl)
      refine anyL_read (i := 3) rfl (by kernel_rfl) (by kernel_rfl) (by kernel_rfl) (by kernel_rfl) (fun _ _ _ _ h => h) ?_
      apply Exists.intro
      refine ⟨Or.inl ⟨by rfl, fun wx hwx => ?_⟩, ?_⟩
      (obtain ⟨⟨f0, f1⟩, f2, f3⟩ := hwx; go_simp; first | done | with_reducible rfl)
      refine anyL_read (i := 4) rfl (by kernel_rfl) (by kernel_rfl) (by kernel_rfl) (by kernel_rfl) (fun _ _ _ _ h => h) ?_
      apply Exists.intro
      refine ⟨Or.inl ⟨by rfl, fun wx hwx => ?_⟩, ?_⟩
      (obtain ⟨⟨f0, f1⟩, f2, f3⟩ := hwx; go_simp; first | done | with_reducible rfl)
      refine anyL_read (i := 5) rfl (by kernel_rfl) (by kernel_rfl) (by kernel_rfl) (by kernel_rfl) (fun _ _ _ _ h => h) ?_
      apply Exists.intro
      refine ⟨Or.inl ⟨by rfl, fun wx hwx => ?_⟩, ?_⟩
      (obtain ⟨⟨f0, f1⟩, f2, f3⟩ := hwx; go_simp; first | done | with_reducible rfl)
      refine anyL_one (i := 6) HC0.out rfl (by kernel_rfl) (fun K hK => ?_)
      go_simp
      refine Calls.mono Hcall.out ?_
      rintro e w2 ⟨V', tv', w2, hg, hm, hk, hfr⟩
      refine hK _ _ ?_
      clear hK K Hcall
      have hX : ∀ x ∈ [mb] ++ fv.ownBlock.toList ++ tv.ownBlock.toList, x < W.heap.size ∧ x ≠ g ∧ x ≠ w.heap.size ∧ ∃ a t, W.heap[x]? = some (.cells a t) := by
        intro x hx
        obtain ⟨cur, hcur⟩ := HRS.out.r.obj Hob.out
        have hone : ∀ a t, W.heap[x]? = some (.cells a t) → t ≠ 50 → t ≠ 84 → x < W.heap.size ∧ x ≠ g ∧ x ≠ w.heap.size ∧ ∃ a t, W.heap[x]? = some (.cells a t) := fun a t ha h1 h2 => by
          refine ⟨(Array.getElem?_eq_some_iff.1 ha).1, fun e => ?_, fun e => ?_, ⟨a, t, ha⟩⟩
          · rw [e, hcur] at ha
            simp only [Option.some.injEq, Obj.cells.injEq] at ha
            exact h1 ha.2.1.symm
          · rw [e, Hbx.out] at ha
            simp only [Option.some.injEq, Obj.cells.injEq] at ha
            exact h2 ha.2.1.symm
        simp at hx
        rcases hx with rfl | hx | hx
        · exact hone _ _ HRS.out.m.mem.box (by decide) (by decide)
        · obtain ⟨cur2, h2⟩ := HRS.out.m.mem.fown.obj hx
          exact hone _ _ h2 (by decide) (by decide)
        · obtain ⟨cur2, h2⟩ := HRS.out.m.mem.town.obj hx
          exact hone _ _ h2 (by decide) (by decide)
      have hgN : g ∉ [mb] ++ fv.ownBlock.toList ++ tv.ownBlock.toList := fun h => (hX g h).2.1 rfl
      have hbN : w.heap.size ∉ [mb] ++ fv.ownBlock.toList ++ tv.ownBlock.toList := fun h => (hX _ h).2.2.1 rfl
      have hgW : g < W.heap.size := HC0.out.2.2
      have hr2 : OwnC w2 base rv (rmap (docOf a ts) tf V rs i) := HRS.out.r.keep (fun k hk2 => by
        rw [Hob.out] at hk2
        cases hk2
        exact hk.block g hgW hgN)
      have hC2 : (w2.cell? ⟨w.heap.size, 0, none⟩ = some (.pointer (some ⟨mb, 0, none⟩)) ∧ w.heap.size < w2.heap.size) ∧ w2.cell? ⟨g, i * 2 + 1, none⟩ = some (.int .i64 cn) ∧ g < w2.heap.size :=
        ⟨⟨hk.cell (p := ⟨w.heap.size, 0, none⟩) HC0.out.1.1 hbN, Nat.lt_of_lt_of_le HC0.out.1.2 hk.size⟩, hk.cell (p := ⟨g, i * 2 + 1, none⟩) HC0.out.2.1 hgN, Nat.lt_of_lt_of_le hgW hk.size⟩
      have HC2 : Hid ((w2.cell? ⟨w.heap.size, 0, none⟩ = some (.pointer (some ⟨mb, 0, none⟩)) ∧ w.heap.size < w2.heap.size) ∧ w2.cell? ⟨g, i * 2 + 1, none⟩ = some (.int .i64 cn) ∧ g < w2.heap.size) := hC2
      have f4 : w2.frozen? ⟨g, i * 2 + 1, none⟩ = false := ownsRow_frozen hr2 Hob.out _
      have Hf4 : Hid (w2.frozen? ⟨g, i * 2 + 1, none⟩ = false) := f4
      have hk3 : Kp [g] w2 (w2.setCell ⟨g, i * 2 + 1, none⟩ (.int .i64 (fw (docOf a ts) tf V' cn))) := Kp.setCell _ _ (by simp) _
      have htg : tv'.ownBlock ≠ some g := fun e => by
        rcases hfr with h | ⟨g2, h2, h3⟩
        · rw [h] at e
          exact hgN (by simp; exact Or.inr (Or.inr e))
        · rw [h2] at e
          cases e
          exact absurd h3 (Nat.not_le_of_lt hgW)
      have hsW := HRS.out.k.size
      have hX2 : ∀ y ∈ [mb] ++ fv.ownBlock.toList ++ tv.ownBlock.toList, y ∈ [mb] ++ fv.ownBlock.toList ++ tv0.ownBlock.toList ++ rv.ownBlock.toList ∨ w.heap.size ≤ y := fun y hy => by
        simp at hy
        rcases hy with hy | hy | hy
        · exact Or.inl (by simp [hy])
        · exact Or.inl (by simp; exact Or.inr (Or.inl hy))
        · rcases HRS.out.f with h | ⟨g2, h2, h3⟩
          · exact Or.inl (by simp; exact Or.inr (Or.inr (Or.inl (h ▸ hy))))
          · rw [h2] at hy
            cases hy
            exact Or.inr h3
      have hil : i < (rmap (docOf a ts) tf V rs i).length := by rw [rmap_len]; exact hi
      have hgi : (rmap (docOf a ts) tf V rs i)[i]'hil = ⟨true, cn⟩ := by
        have := Hgt.out
        rw [List.getElem?_eq_getElem hil] at this
        exact Option.some.inj this
      have hset := hr2.setN Hob.out i hil (fw (docOf a ts) tf V' cn)
      rw [hgi] at hset
      have hnext : rmap (docOf a ts) tf V' rs (i + 1) = (rmap (docOf a ts) tf V rs i).set i ⟨true, fw (docOf a ts) tf V' cn⟩ := by
        rw [rmap_next _ tf V' rs i hi, Hcc.out, rmap_grow tf hg rs i HRS.out.s]
        rfl
      have Q : Hid (RI w mb cells a tf ts rs fv tv0 base rv (i + 1) (w2.setCell ⟨g, i * 2 + 1, none⟩ (.int .i64 (fw (docOf a ts) tf V' cn)))) := by
        refine RI.mk tv' V' ⟨hm.kp hk3 (by simp; exact fun e => hgN (by simp [e])) (fun j hj => by simp; exact fun e => hgN (by simp; exact Or.inr (Or.inl (e ▸ hj)))) (fun j hj => by simp; exact fun e => htg (e ▸ hj)), by rw [hnext]; exact hset, (HRS.out.k.drew.then hk hX2).then hk3 (by simp; exact Or.inl (Or.inr (Or.inr (Or.inr Hob.out)))), ?_, fun x hx => ?_⟩ ?_
        · rcases hfr with h | ⟨g2, h2, h3⟩
          · rcases HRS.out.f with h' | ⟨g3, h4, h5⟩
            · exact Or.inl (h.trans h')
            · exact Or.inr ⟨g3, h.trans h4, h5⟩
          · exact Or.inr ⟨g2, h2, Nat.le_trans hsW h3⟩
        · rw [Hmem.out] at hx
          rcases List.mem_append.1 hx with hx | hx
          · exact hg.sub x (HRS.out.s x hx)
          · simp at hx
            subst hx
            exact hg.has
        · have h1 := (hk.block w.heap.size HC0.out.1.2 hbN).trans Hbx.out
          refine (hk3.block _ (Array.getElem?_eq_some_iff.1 h1).1 ?_).trans h1
          simp
          intro e
          obtain ⟨cur, hcur⟩ := HRS.out.r.obj Hob.out
          have := Hbx.out
          rw [e, hcur] at this
          simp at this
      have Q2 : Hid (Bk w1.heap.size W (w2.setCell ⟨g, i * 2 + 1, none⟩ (.int .i64 (fw (docOf a ts) tf V' cn)))) := ⟨fun k o _ ho hko => by
        have hlk := (Array.getElem?_eq_some_iff.1 hko).1
        have h1 : w2.heap[k]? = some o := (hk.block k hlk (fun hx => by
          obtain ⟨_, _, _, a2, t2, h2⟩ := hX k hx
          rw [h2] at hko
          cases hko
          cases ho)).trans hko
        refine (hk3.block k (Array.getElem?_eq_some_iff.1 h1).1 ?_).trans h1
        simp
        intro e
        obtain ⟨cur, hcur⟩ := HRS.out.r.obj Hob.out
        rw [e, hcur] at hko
        cases hko
        cases ho⟩
      clear hX hgN hbN hgW hr2 hC2 f4 hk3 htg hsW hX2 hil hgi hset hnext hg hm hk hfr
      refine anyL_one (i := 7) HC2.out rfl (by kernel_rfl) (fun K hK => ?_)
      (obtain ⟨⟨f0, f1⟩, f2, f3⟩ := HC2.out; go_simp)
      refine hK _ _ ?_
      clear hK K
      refine anyL_one (i := 8) HC2.out rfl (by kernel_rfl) (fun K hK => ?_)
      (obtain ⟨⟨f0, f1⟩, f2, f3⟩ := HC2.out; go_simp)
      refine hK _ _ ?_
      clear hK K
      refine anyL_one (i := 9) HC2.out rfl (by kernel_rfl) (fun K hK => ?_)
      (obtain ⟨⟨f0, f1⟩, f2, f3⟩ := HC2.out; have f4 := Hf4.out; go_simp)
      refine hK _ _ ?_
      clear hK K
      refine anyL_done (by kernel_rfl) (by kernel_rfl) ?_
      exact ⟨rfl, Q.out, Q2.out⟩
end
end Go.Proofs.Ytfeopoamednidaa
