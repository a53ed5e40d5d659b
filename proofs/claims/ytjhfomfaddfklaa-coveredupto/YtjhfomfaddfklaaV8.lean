/-
  The program's layer matches: partsOf.
-/
import Derived.Test.YtjhfomfaddfklaaV7
namespace Go.Proofs.Ytjhfomfaddfklaa
open Go.RowKit Go.Deep Go.Shelf
attribute [local go_sem] Oper.semAt_some
/-- Between two rounds: the row so far; the slice that is gone through. -/
structure PI (w : World) (sv : Value) (ps : List Pt) (W : World) : Prop where
  ex : ∃ v L, Boxed W w.heap.size 41 v ∧ OwnK w.heap.size W v L ∧ L.map (·.2) = ps
  bl : Below w.heap.size w W
  bs : Boxed W (w.heap.size + 1) 23 sv
theorem cells_not {W : World} {row : Option Nat} {B' : Nat} (hr : ∀ r, row = some r → B' ≤ r ∧ ∃ o : Obj, W.heap[r]? = some o ∧ o.isCells = false) {k : Nat} {x : Obj} (hk : W.heap[k]? = some x) (hx : x.isCells = true) : some k ≠ row := fun e => by
  obtain ⟨_, o, ho, hc⟩ := hr k e.symm
  rw [hk] at ho
  cases ho
  rw [hx] at hc
  cases hc
theorem PI.own {α : Type} (w : World) (sv : Value) (f : α → List Pt) (B' : Nat) (hB : w.heap.size ≤ B') : OwnFrom B' (fun s W => PI w sv (f s) W) := by
  rintro s W W' row ⟨⟨v, L, hv, hown, hL⟩, hbl, hbs⟩ hg hr
  refine ⟨⟨v, L, hv.kept hg (cells_not hr hv rfl), ⟨hown.row.kept hg ?_, fun x hx => (hown.els x hx).step (fun k y _ hne hk hy => ⟨(hg.block k (Array.getElem?_eq_some_iff.1 hk).1 (cells_not hr hk hy)).trans hk, hne⟩)⟩, hL⟩, hbl.trans (grown_below hg (fun k hk => Nat.le_trans hB (hr k hk).1) hbl.size), hbs.kept hg (cells_not hr hbs rfl)⟩
  rcases hown.row.2 with ⟨rfl, _⟩ | ⟨g, cap, cur, rfl, _, hgb, _⟩
  · exact .inl rfl
  · exact .inr (fun e => cells_not hr hgb rfl (by simpa [Value.ownBlock] using e))
theorem own_form {W : World} {B : Nat} {e : TypeId} {v : Value} {n : Nat} {xs : List Value} (h : W.ownsRow B e 1 v n xs) : ∃ q c, v = .slice q n c ∧ n ≤ c ∧ (q = none → c = 0) ∧ (∀ b, q = some b → B ≤ b.block ∧ b.block < W.heap.size ∧ b = ⟨b.block, 0, none⟩) := by
  rcases h.2 with ⟨rfl, rfl⟩ | ⟨g, cap, cur, rfl, h1, h2, h3, _⟩
  · exact ⟨none, 0, rfl, Nat.le_refl _, fun _ => rfl, fun b hb => by cases hb⟩
  · exact ⟨some ⟨g, 0, none⟩, cap, rfl, h3, (fun h => by cases h), (fun b hb => by cases hb; exact ⟨h1, (Array.getElem?_eq_some_iff.1 h2).1, rfl⟩)⟩
/-- What is handed on at the end. -/
theorem OwnK.line {B : Nat} {W : World} {q : Option Addr} {n c : Nat} {L : List (Option Addr × Pt)} (h : OwnK B W (.slice q n c) L) (hm : L.length ≤ 1000) : LFresh B W q (L.map (·.2)) := fun w' hw' => by
  refine ⟨by simp [maxLen]; omega, fun i hi => ?_⟩
  have hi2 : i < L.length := by simpa using hi
  rcases h.row.2 with ⟨_, h0⟩ | ⟨g, cap, cur, hv, h1, h2, h3, h4, h5, h6⟩
  · omega
  · cases hv
    have hc := h.row.cells (g := g) rfl i (.pointer (L[i]'hi2).1) (by simp [hi2])
    rw [add_at] at hc
    have hb : w'.heap[g]? = W.heap[g]? := (hw' g _ h1 h2 rfl).trans h2.symm
    refine ⟨g, 0, (L[i]'hi2).1, rfl, (World.cell?_of_block (w := W) hb).trans hc, ?_⟩
    have := h.els _ (List.getElem_mem hi2) w' (fun k x h0 _ h3 h4 => hw' k x (by omega) h3 h4)
    simpa using this
section
set_option maxHeartbeats 8000000
set_option maxRecDepth 100000
theorem parts_row (wb : World) (lst : List Pt) (ih : ∀ P ∈ lst, PartOk wb P) (hlen : lst.length ≤ 1000) (w : World) (p : Option Addr) (cap : Nat) (hbw : Below wb.heap.size wb w) (hrow : RowAt wb w p lst) :
    Calls Try.prog 23 #[.slice p lst.length cap] w fun e w' => PartsPost lst w e w' := by
  refine (callsIn_wide (n := 3)).1 ?_
  refine callsIn_of_wp_marks Try.func23 rfl trivial ?_ rfl
  simp only [Try.ntmps23, List.size_toArray, List.length_cons, List.length_nil, Nat.reduceAdd, Nat.reduceSub, Array.replicate_succ, Array.replicate_zero, List.push_toArray, List.append_toArray, List.nil_append, List.cons_append]
  gi_wp2_with (refine ⟨trivial, ?_⟩; gi_at_call 39; refine (callsIn_wide.2 (backward_any _ _ _ _)).mono ?_; rintro e w' ⟨rfl, rfl⟩)
  have bO := Boxed.new w 41 (.slice none 0 0)
  have bN := Boxed.new (w.alloc (.cells #[.slice none 0 0] 41)) 23 (.slice p lst.length cap)
  rw [World.size_alloc] at bN
  have hB0 : Below w.heap.size w ((w.alloc (.cells #[.slice none 0 0] 41)).alloc (.cells #[.slice p lst.length cap] 23)) := ((Below.refl _ w).alloc (Nat.le_refl _) _).alloc (by simp) _
  have hsz : ((w.alloc (.cells #[.slice none 0 0] 41)).alloc (.cells #[.slice p lst.length cap] 23)).heap.size = w.heap.size + 1 + 1 := by simp
  have bO2 := bO.alloc (.cells #[.slice p lst.length cap] 23)
  generalize (w.alloc (.cells #[.slice none 0 0] 41)).alloc (.cells #[.slice p lst.length cap] 23) = W0 at *
  clear bO
  have hbw0 : Below wb.heap.size wb W0 := hbw.trans (hB0.mono hbw.size)
  have hrow0 : RowAt wb W0 p lst := hrow.below hB0
  have hrn : ∀ b : Addr, p = some b → lst ≠ [] → b.block < w.heap.size := fun b hb hne => by
    obtain ⟨b', o', c', h1, h2, _⟩ := hrow.get 0 (List.length_pos_iff.2 hne)
    rw [hb] at h1
    cases h1
    exact h2.lt
  refine wpIn_rangeFunc_ownH rfl (by omega) (gf := 47) (lb := #[.pointer (some ⟨w.heap.size + 1, 0, none⟩)]) rfl trivial (enters_of Try.func47 (by kernel_rfl) rfl)
    (back_stops wb lst 2 (by omega) (w.heap.size + 1) w.heap.size p cap hlen W0 bN.cell bN.lt hrow0 hrn) (fun h k => KpB.trans h k) ?hKb (Below.refl _ _) (fun _ => rfl)
    (fun pre W => PI w (.slice p lst.length cap) (pre.map (·.P)) W) (fun _ _ _ => False)
    (PI.own w (.slice p lst.length cap) (fun pre : List (BackEl wb lst) => pre.map (·.P)) _ (by omega)) (fun _ _ _ _ _ hs _ _ => hs)
    ⟨⟨_, [], bO2, ⟨World.ownsRow_nil _ _ _ _, fun _ hx => by cases hx⟩, rfl⟩, hB0, bN⟩
    (fun x a' W => ∃ Bx, PBox W Bx x.c ∧ a' = { tmps := #[.slice p lst.length cap, undef, .slice none 0 0, .pointer (some ⟨w.heap.size, 0, none⟩), undef, .pointer (some ⟨Bx, 0, none⟩), .slice p lst.length cap, .func (.func 47) #[] #[.pointer (some ⟨w.heap.size + 1, 0, none⟩)], .int .i64 x.i, x.c.val, undef, undef, undef, undef, undef, undef], defers := [] }) ?hAx ?assign ?body ?done ?stop
  case hKb =>
    intro W l o o' hl ho hc hw
    have hne : w.heap.size + 1 ≠ l := by omega
    exact ⟨belowK_b (w := W0) (by omega) W l o o' hl ho hc hw, World.putObj_heap_other hne⟩
  case hAx =>
    rintro x a' _ W W' row ⟨Bx, hbx, rfl⟩ hg hr
    exact ⟨Bx, (hg.block Bx hbx.lt (cells_not hr hbx rfl)).trans hbx, rfl⟩
  case assign =>
    rintro l pre ⟨xi, ⟨ck, cn, co, ca, cs, cp, cl, cc⟩, xP, hxP, hxm⟩ W K hi hK
    simp only [BackEl.enc, PC.val] at *
    gi_wp2
    refine hK _ _ ((KeepsOthers.alloc _ _).from _) ⟨(Below.refl _ W).alloc hi.bl.size _, ?_⟩ ?_ ⟨W.heap.size, pbox_new W ⟨ck, cn, co, ca, cs, cp, cl, cc⟩, rfl⟩
    · exact Below.heap_alloc _ _ _ hi.bs.lt
    · exact (PI.own w (.slice p lst.length cap) (fun pre : List (BackEl wb lst) => pre.map (·.P)) W0.heap.size (by omega)).alloc _ hi
  case body =>
    rintro l pre ⟨xi, ⟨ck, cn, co, ca, cs, cp, cl, cc⟩, xP, hxP, hxm⟩ a' W hl ⟨r, hr⟩ ⟨⟨v, L, hv, hown, hL⟩, hbl, hbs⟩ ⟨Bx, hbx, rfl⟩ hlt
    obtain ⟨q, qc, rfl, hqc, hqn, hqb⟩ := own_form hown.row
    have hWsz : w.heap.size + 1 < W.heap.size := hbs.lt
    have hLl : L.length ≤ 1000 := by
      have h1 : L.length = pre.length := by
        have := congrArg List.length hL
        simpa using this
      omega
    have Hcls : Hid (∀ wx, Below W.heap.size W wx → (wx.cell? ⟨w.heap.size, 0, none⟩ = some (.slice q L.length qc) ∧ w.heap.size < wx.heap.size) ∧ wx.cell? ⟨Bx, 0, none⟩ = some (.int .i64 ck) ∧ wx.cell? ⟨Bx, 1, none⟩ = some (.int .i64 cn) ∧ wx.cell? ⟨Bx, 2, none⟩ = some (.int .i64 co) ∧ wx.cell? ⟨Bx, 3, none⟩ = some (.int .i64 ca) ∧ wx.cell? ⟨Bx, 4, none⟩ = some (.string cs) ∧ wx.cell? ⟨Bx, 5, none⟩ = some (.slice cp cl cc) ∧ Bx < wx.heap.size) := fun wx hx =>
      ⟨⟨(hx.cell (p := ⟨w.heap.size, 0, none⟩) hv.lt).trans hv.cell, Nat.lt_of_lt_of_le hv.lt hx.size⟩, (PBox.below hbx hx).cells'⟩
    have hCd : Below W.heap.size W W.drew := (Below.refl _ _).drew
    have hWd : Below wb.heap.size wb W.drew := (hbw.trans (hbl.mono hbw.size)).trans (hCd.mono (hbw.trans (hbl.mono hbw.size)).size)
    have Hcall : Hid _ := ih xP hxm ⟨ck, cn, co, ca, cs, cp, cl, cc⟩ hxP W.drew hWd
    simp only [PC.val] at Hcall ⊢
    have HI : Hid (Boxed W w.heap.size 41 (.slice q L.length qc) ∧ OwnK w.heap.size W (.slice q L.length qc) L ∧ L.map (·.2) = pre.map (·.P) ∧ Below w.heap.size w W ∧ Boxed W (w.heap.size + 1) 23 (.slice p lst.length cap)) := ⟨hv, hown, hL, hbl, hbs⟩
    clear hv hown hL hbl hbs hWd hrow hrow0 hbw hbw0 bO2 bN ih hrn
    gi_wp2_with fail
    have HX : Hid (PBox W Bx ⟨ck, cn, co, ca, cs, cp, cl, cc⟩) := hbx
    clear hbx
    refine region_round (C := fun wx => PBox wx Bx ⟨ck, cn, co, ca, cs, cp, cl, cc⟩) (by kernel_rfl) (by kernel_rfl) ?_ ?_
    · rintro ⟨a9, w9, h9⟩
      exact h9
    have hPd : PBox W.drew Bx ⟨ck, cn, co, ca, cs, cp, cl, cc⟩ := PBox.below HX.out hCd
    refine anyIn_read (i := 1) rfl (by kernel_rfl) (by kernel_rfl) (by kernel_rfl) (fun _ _ _ _ h => h) ?_
    apply Exists.intro
    refine ⟨Or.inl ⟨by rfl, fun wx hwx => ?_⟩, ?_⟩
    (obtain ⟨f0, f1, f2, f3, f4, f5, f6⟩ := PBox.cells' hwx; simp only at f0 f1 f2 f3 f4 f5; go_simp; first | done | with_reducible rfl)
    refine anyIn_two (i := 0) (j := 2) hPd rfl rfl (by kernel_rfl) (fun K hK => ?_) (fun K hK => ?_)
    · (obtain ⟨⟨f0, f1⟩, _⟩ := Hcls.out _ (hCd); go_simp)
      refine hK _ _ ?_
      clear hK K
      refine anyIn_one (i := 2) hPd rfl (by kernel_rfl) (fun K hK => ?_)
      go_simp
      refine Calls.mono Hcall.out ?_
      rintro e9 w1 ⟨v1, rfl, hf1, hb1⟩
      refine hK _ _ ?_
      clear hK K Hcall
      have hC1 : Below W.heap.size W w1 := Below.then hCd hb1 (Nat.le_refl _)
      have hP1 : PBox w1 Bx ⟨ck, cn, co, ca, cs, cp, cl, cc⟩ := PBox.below HX.out hC1
      refine anyIn_one (i := 3) hP1 rfl (by kernel_rfl) (fun K hK => ?_)
      go_simp
      refine hK _ _ ?_
      clear hK K
      have hP2 : PBox (w1.alloc (.cells #[.pointer v1] 55)) Bx ⟨ck, cn, co, ca, cs, cp, cl, cc⟩ := PBox.below hP1 ((Below.refl _ _).alloc (Nat.le_refl _) _)
      obtain ⟨Kb, Ko, KL, Kbl, Kbs⟩ := HI.out
      have hsd : W.drew.heap.size = W.heap.size := rfl
      rw [hsd] at hf1 hb1
      have hv1 : Boxed w1 w.heap.size 41 (.slice q L.length qc) := (hC1.block _ Kb.lt).trans Kb
      have hrow1 : w1.ownsRow w.heap.size 55 1 (.slice q L.length qc) L.length (L.map fun x => Value.pointer x.1) := owns_below Ko.row hC1
      have hsz1 : w.heap.size ≤ w1.heap.size := by have := hC1.size; omega
      obtain ⟨i0, hi0, hzz0, hzz1, hzz2⟩ := info_parts infos55
      refine anyIn_one (i := 4) hP2 rfl (by kernel_rfl) (fun K hK => ?_)
      rw [if_pos (by rfl)]
      refine wp_append_lies _ (Operand.tmp 10) (Operand.tmp 13) 41 rfl w.heap.size 55 i0 (.pointer none) 1 8 slice41 hi0 hzz0 hzz1 hzz2 rfl (by decide) (.slice q L.length qc) L.length (L.map fun x => Value.pointer x.1) rfl (hrow1.alloc _) ⟨w1.heap.size, 0, none⟩ 1 1 [.pointer v1] rfl rfl (cell_one_new w1 _ 55) (by intro u hu; simp only [List.mem_cons, List.not_mem_nil, or_false] at hu; subst hu; rfl) (by omega) (by unfold maxLen; omega) (by omega) (by simp; omega) w1.heap.size.succ (by simp) ?_
      intro g gc w3 ho3 hg3 hat hlt3
      refine hK _ _ ?_
      clear hK K
      obtain ⟨hb3, hs4, hr4, hk4, hl4⟩ := hv1.appended (by decide) hrow1 hsz1 (Nat.le_refl _) ho3 hg3
      have hc3 := hb3.cell
      have hf3 := hb3.frozen
      have hl3 := hb3.lt
      have hown1 : ∀ k, Value.ownBlock (.slice q L.length qc) = some k → w.heap.size ≤ k ∧ k < W.heap.size := fun k hk => Ko.row.lt k hk
      have hkeep : ∀ k x, k < w1.heap.size → Value.ownBlock (.slice q L.length qc) ≠ some k → k ≠ w.heap.size → w1.heap[k]? = some x → (w3.setCell ⟨w.heap.size, 0, none⟩ (.slice (some ⟨g, 0, none⟩) (L.length + 1) gc)).heap[k]? = some x := fun k x hk hne hnb hx => by
        rw [Below.heap_setCell _ _ _ k (by simpa using hnb), hg3.block k (by simp; omega) (fun e => hne e.symm), Below.heap_alloc _ _ _ hk]
        exact hx
      have hgne : ∀ k, k < w1.heap.size → Value.ownBlock (.slice q L.length qc) ≠ some k → Value.ownBlock (.slice (some ⟨g, 0, none⟩) (L.length + 1) gc) ≠ some k := fun k hk hne e => by
        have hge : g = k := by simpa [Value.ownBlock] using e
        subst hge
        rcases hat with hat | hat
        · exact hne hat
        · omega
      have hbne : Value.ownBlock (.slice q L.length qc) ≠ some (w.heap.size + 1) := fun e => Kbs.not_row (by decide) Ko.row e.symm
      have hP4 : PBox (w3.setCell ⟨w.heap.size, 0, none⟩ (.slice (some ⟨g, 0, none⟩) (L.length + 1) gc)) Bx ⟨ck, cn, co, ca, cs, cp, cl, cc⟩ := by
        refine hkeep Bx _ hP1.lt (fun e => ?_) (fun e => ?_) hP1
        · rcases Ko.row.2 with ⟨hn, _⟩ | ⟨g', cap', cur, hv', _, hgb, _⟩
          · rw [hn] at e
            cases e
          · rw [hv'] at e
            have : g' = Bx := by simpa [Value.ownBlock] using e
            subst this
            have := hgb.symm.trans HX.out
            simp [PC.obj] at this
        · have := Kb.symm.trans (e ▸ HX.out)
          simp [PC.obj] at this
      have hP3 : PBox w3 Bx ⟨ck, cn, co, ca, cs, cp, cl, cc⟩ := by
        have hne : Value.ownBlock (.slice q L.length qc) ≠ some Bx := fun e => by
          rcases Ko.row.2 with ⟨hn, _⟩ | ⟨g', cap', cur, hv', _, hgb, _⟩
          · rw [hn] at e
            cases e
          · rw [hv'] at e
            have : g' = Bx := by simpa [Value.ownBlock] using e
            subst this
            have := hgb.symm.trans HX.out
            simp [PC.obj] at this
        exact (hg3.block Bx (by have := hP1.lt; simp; omega) (fun e => hne e.symm)).trans hP2
      refine anyIn_one (i := 5) hP3 rfl (by kernel_rfl) (fun K hK => ?_)
      go_simp
      refine hK _ _ ?_
      clear hK K
      refine anyIn_done hP4 (by kernel_rfl) ?_
      have Q1 : KeepsFrom W0.heap.size W (w3.setCell ⟨w.heap.size, 0, none⟩ (.slice (some ⟨g, 0, none⟩) (L.length + 1) gc)) := by
        refine ⟨?_, fun k x _ hk hx => ?_⟩
        · have h1 := hC1.size
          have h2 := hl4.size
          exact Nat.le_trans h1 hk4.size
        · have hlk := (Array.getElem?_eq_some_iff.1 hk).1
          exact hk4.same k x ((hC1.block k hlk).trans hk) hx
      have Q2 : KpB w.heap.size (w.heap.size + 1) W (w3.setCell ⟨w.heap.size, 0, none⟩ (.slice (some ⟨g, 0, none⟩) (L.length + 1) gc)) := by
        refine ⟨(hC1.mono (by omega)).trans hl4, ?_⟩
        have h1 : w1.heap[w.heap.size + 1]? = some _ := (hC1.block _ hWsz).trans Kbs
        rw [hkeep _ _ (by have := hC1.size; omega) hbne (by omega) h1]
        exact Kbs.symm
      have Q3 : PI w (.slice p lst.length cap) (List.map (fun x : BackEl wb lst => x.P) (pre ++ [⟨xi, ⟨ck, cn, co, ca, cs, cp, cl, cc⟩, xP, hxP, hxm⟩])) (w3.setCell ⟨w.heap.size, 0, none⟩ (.slice (some ⟨g, 0, none⟩) (L.length + 1) gc)) := by
        refine ⟨⟨_, L ++ [(v1, xP)], hs4, ⟨by simpa using hr4, fun y hy => ?_⟩, by rw [List.map_append, List.map_append, KL]; rfl⟩, (Kbl.trans (hC1.mono (by omega))).trans hl4, ?_⟩
        · rcases List.mem_append.1 hy with hy | hy
          · refine (Ko.els y hy).step (fun k x h0 h1 h2 h3 => ?_)
            have hlk := (Array.getElem?_eq_some_iff.1 h2).1
            have hlk1 : k < w1.heap.size := Nat.lt_of_lt_of_le hlk hC1.size
            exact ⟨hkeep k x hlk1 h1 (by omega) ((hC1.block k hlk).trans h2), hgne k hlk1 h1⟩
          · obtain rfl : y = (v1, xP) := by simpa using hy
            refine (hf1.off (o := Value.ownBlock (.slice q L.length qc)) (fun k hk => (hown1 k hk).2) (by omega)).step (fun k x h0 h1 h2 h3 => ?_)
            have hlk1 := (Array.getElem?_eq_some_iff.1 h2).1
            exact ⟨hkeep k x hlk1 h1 (by omega) h2, hgne k hlk1 h1⟩
        · exact hkeep _ _ (by have := hC1.size; omega) hbne (by omega) ((hC1.block _ hWsz).trans Kbs)
      exact ⟨Q1, Q2, Q3⟩
    · go_simp
      refine Calls.mono Hcall.out ?_
      rintro e9 w1 ⟨v1, rfl, hf1, hb1⟩
      refine hK _ _ ?_
      clear hK K Hcall
      have hC1 : Below W.heap.size W w1 := Below.then hCd hb1 (Nat.le_refl _)
      have hP1 : PBox w1 Bx ⟨ck, cn, co, ca, cs, cp, cl, cc⟩ := PBox.below HX.out hC1
      refine anyIn_two (i := 0) (j := 3) hP1 rfl rfl (by kernel_rfl) (fun K hK => ?_) (fun K hK => ?_)
      · (obtain ⟨⟨f0, f1⟩, _⟩ := Hcls.out _ (hC1); go_simp)
        refine hK _ _ ?_
        clear hK K
        refine anyIn_one (i := 3) hP1 rfl (by kernel_rfl) (fun K hK => ?_)
        go_simp
        refine hK _ _ ?_
        clear hK K
        have hP2 : PBox (w1.alloc (.cells #[.pointer v1] 55)) Bx ⟨ck, cn, co, ca, cs, cp, cl, cc⟩ := PBox.below hP1 ((Below.refl _ _).alloc (Nat.le_refl _) _)
        obtain ⟨Kb, Ko, KL, Kbl, Kbs⟩ := HI.out
        have hsd : W.drew.heap.size = W.heap.size := rfl
        rw [hsd] at hf1 hb1
        have hv1 : Boxed w1 w.heap.size 41 (.slice q L.length qc) := (hC1.block _ Kb.lt).trans Kb
        have hrow1 : w1.ownsRow w.heap.size 55 1 (.slice q L.length qc) L.length (L.map fun x => Value.pointer x.1) := owns_below Ko.row hC1
        have hsz1 : w.heap.size ≤ w1.heap.size := by have := hC1.size; omega
        obtain ⟨i0, hi0, hzz0, hzz1, hzz2⟩ := info_parts infos55
        refine anyIn_one (i := 4) hP2 rfl (by kernel_rfl) (fun K hK => ?_)
        rw [if_pos (by rfl)]
        refine wp_append_lies _ (Operand.tmp 10) (Operand.tmp 13) 41 rfl w.heap.size 55 i0 (.pointer none) 1 8 slice41 hi0 hzz0 hzz1 hzz2 rfl (by decide) (.slice q L.length qc) L.length (L.map fun x => Value.pointer x.1) rfl (hrow1.alloc _) ⟨w1.heap.size, 0, none⟩ 1 1 [.pointer v1] rfl rfl (cell_one_new w1 _ 55) (by intro u hu; simp only [List.mem_cons, List.not_mem_nil, or_false] at hu; subst hu; rfl) (by omega) (by unfold maxLen; omega) (by omega) (by simp; omega) w1.heap.size.succ (by simp) ?_
        intro g gc w3 ho3 hg3 hat hlt3
        refine hK _ _ ?_
        clear hK K
        obtain ⟨hb3, hs4, hr4, hk4, hl4⟩ := hv1.appended (by decide) hrow1 hsz1 (Nat.le_refl _) ho3 hg3
        have hc3 := hb3.cell
        have hf3 := hb3.frozen
        have hl3 := hb3.lt
        have hown1 : ∀ k, Value.ownBlock (.slice q L.length qc) = some k → w.heap.size ≤ k ∧ k < W.heap.size := fun k hk => Ko.row.lt k hk
        have hkeep : ∀ k x, k < w1.heap.size → Value.ownBlock (.slice q L.length qc) ≠ some k → k ≠ w.heap.size → w1.heap[k]? = some x → (w3.setCell ⟨w.heap.size, 0, none⟩ (.slice (some ⟨g, 0, none⟩) (L.length + 1) gc)).heap[k]? = some x := fun k x hk hne hnb hx => by
          rw [Below.heap_setCell _ _ _ k (by simpa using hnb), hg3.block k (by simp; omega) (fun e => hne e.symm), Below.heap_alloc _ _ _ hk]
          exact hx
        have hgne : ∀ k, k < w1.heap.size → Value.ownBlock (.slice q L.length qc) ≠ some k → Value.ownBlock (.slice (some ⟨g, 0, none⟩) (L.length + 1) gc) ≠ some k := fun k hk hne e => by
          have hge : g = k := by simpa [Value.ownBlock] using e
          subst hge
          rcases hat with hat | hat
          · exact hne hat
          · omega
        have hbne : Value.ownBlock (.slice q L.length qc) ≠ some (w.heap.size + 1) := fun e => Kbs.not_row (by decide) Ko.row e.symm
        have hP4 : PBox (w3.setCell ⟨w.heap.size, 0, none⟩ (.slice (some ⟨g, 0, none⟩) (L.length + 1) gc)) Bx ⟨ck, cn, co, ca, cs, cp, cl, cc⟩ := by
          refine hkeep Bx _ hP1.lt (fun e => ?_) (fun e => ?_) hP1
          · rcases Ko.row.2 with ⟨hn, _⟩ | ⟨g', cap', cur, hv', _, hgb, _⟩
            · rw [hn] at e
              cases e
            · rw [hv'] at e
              have : g' = Bx := by simpa [Value.ownBlock] using e
              subst this
              have := hgb.symm.trans HX.out
              simp [PC.obj] at this
          · have := Kb.symm.trans (e ▸ HX.out)
            simp [PC.obj] at this
        have hP3 : PBox w3 Bx ⟨ck, cn, co, ca, cs, cp, cl, cc⟩ := by
          have hne : Value.ownBlock (.slice q L.length qc) ≠ some Bx := fun e => by
            rcases Ko.row.2 with ⟨hn, _⟩ | ⟨g', cap', cur, hv', _, hgb, _⟩
            · rw [hn] at e
              cases e
            · rw [hv'] at e
              have : g' = Bx := by simpa [Value.ownBlock] using e
              subst this
              have := hgb.symm.trans HX.out
              simp [PC.obj] at this
          exact (hg3.block Bx (by have := hP1.lt; simp; omega) (fun e => hne e.symm)).trans hP2
        refine anyIn_one (i := 5) hP3 rfl (by kernel_rfl) (fun K hK => ?_)
        go_simp
        refine hK _ _ ?_
        clear hK K
        refine anyIn_done hP4 (by kernel_rfl) ?_
        have Q1 : KeepsFrom W0.heap.size W (w3.setCell ⟨w.heap.size, 0, none⟩ (.slice (some ⟨g, 0, none⟩) (L.length + 1) gc)) := by
          refine ⟨?_, fun k x _ hk hx => ?_⟩
          · have h1 := hC1.size
            have h2 := hl4.size
            exact Nat.le_trans h1 hk4.size
          · have hlk := (Array.getElem?_eq_some_iff.1 hk).1
            exact hk4.same k x ((hC1.block k hlk).trans hk) hx
        have Q2 : KpB w.heap.size (w.heap.size + 1) W (w3.setCell ⟨w.heap.size, 0, none⟩ (.slice (some ⟨g, 0, none⟩) (L.length + 1) gc)) := by
          refine ⟨(hC1.mono (by omega)).trans hl4, ?_⟩
          have h1 : w1.heap[w.heap.size + 1]? = some _ := (hC1.block _ hWsz).trans Kbs
          rw [hkeep _ _ (by have := hC1.size; omega) hbne (by omega) h1]
          exact Kbs.symm
        have Q3 : PI w (.slice p lst.length cap) (List.map (fun x : BackEl wb lst => x.P) (pre ++ [⟨xi, ⟨ck, cn, co, ca, cs, cp, cl, cc⟩, xP, hxP, hxm⟩])) (w3.setCell ⟨w.heap.size, 0, none⟩ (.slice (some ⟨g, 0, none⟩) (L.length + 1) gc)) := by
          refine ⟨⟨_, L ++ [(v1, xP)], hs4, ⟨by simpa using hr4, fun y hy => ?_⟩, by rw [List.map_append, List.map_append, KL]; rfl⟩, (Kbl.trans (hC1.mono (by omega))).trans hl4, ?_⟩
          · rcases List.mem_append.1 hy with hy | hy
            · refine (Ko.els y hy).step (fun k x h0 h1 h2 h3 => ?_)
              have hlk := (Array.getElem?_eq_some_iff.1 h2).1
              have hlk1 : k < w1.heap.size := Nat.lt_of_lt_of_le hlk hC1.size
              exact ⟨hkeep k x hlk1 h1 (by omega) ((hC1.block k hlk).trans h2), hgne k hlk1 h1⟩
            · obtain rfl : y = (v1, xP) := by simpa using hy
              refine (hf1.off (o := Value.ownBlock (.slice q L.length qc)) (fun k hk => (hown1 k hk).2) (by omega)).step (fun k x h0 h1 h2 h3 => ?_)
              have hlk1 := (Array.getElem?_eq_some_iff.1 h2).1
              exact ⟨hkeep k x hlk1 h1 (by omega) h2, hgne k hlk1 h1⟩
          · exact hkeep _ _ (by have := hC1.size; omega) hbne (by omega) ((hC1.block _ hWsz).trans Kbs)
        exact ⟨Q1, Q2, Q3⟩
      · go_simp
        refine hK _ _ ?_
        clear hK K
        have hP2 : PBox (w1.alloc (.cells #[.pointer v1] 55)) Bx ⟨ck, cn, co, ca, cs, cp, cl, cc⟩ := PBox.below hP1 ((Below.refl _ _).alloc (Nat.le_refl _) _)
        refine anyIn_one (i := 0) hP2 rfl (by kernel_rfl) (fun K hK => ?_)
        (obtain ⟨⟨f0, f1⟩, _⟩ := Hcls.out _ (hC1); go_simp)
        refine hK _ _ ?_
        clear hK K
        obtain ⟨Kb, Ko, KL, Kbl, Kbs⟩ := HI.out
        have hsd : W.drew.heap.size = W.heap.size := rfl
        rw [hsd] at hf1 hb1
        have hv1 : Boxed w1 w.heap.size 41 (.slice q L.length qc) := (hC1.block _ Kb.lt).trans Kb
        have hrow1 : w1.ownsRow w.heap.size 55 1 (.slice q L.length qc) L.length (L.map fun x => Value.pointer x.1) := owns_below Ko.row hC1
        have hsz1 : w.heap.size ≤ w1.heap.size := by have := hC1.size; omega
        obtain ⟨i0, hi0, hzz0, hzz1, hzz2⟩ := info_parts infos55
        refine anyIn_one (i := 4) hP2 rfl (by kernel_rfl) (fun K hK => ?_)
        rw [if_pos (by rfl)]
        refine wp_append_lies _ (Operand.tmp 10) (Operand.tmp 13) 41 rfl w.heap.size 55 i0 (.pointer none) 1 8 slice41 hi0 hzz0 hzz1 hzz2 rfl (by decide) (.slice q L.length qc) L.length (L.map fun x => Value.pointer x.1) rfl (hrow1.alloc _) ⟨w1.heap.size, 0, none⟩ 1 1 [.pointer v1] rfl rfl (cell_one_new w1 _ 55) (by intro u hu; simp only [List.mem_cons, List.not_mem_nil, or_false] at hu; subst hu; rfl) (by omega) (by unfold maxLen; omega) (by omega) (by simp; omega) w1.heap.size.succ (by simp) ?_
        intro g gc w3 ho3 hg3 hat hlt3
        refine hK _ _ ?_
        clear hK K
        obtain ⟨hb3, hs4, hr4, hk4, hl4⟩ := hv1.appended (by decide) hrow1 hsz1 (Nat.le_refl _) ho3 hg3
        have hc3 := hb3.cell
        have hf3 := hb3.frozen
        have hl3 := hb3.lt
        have hown1 : ∀ k, Value.ownBlock (.slice q L.length qc) = some k → w.heap.size ≤ k ∧ k < W.heap.size := fun k hk => Ko.row.lt k hk
        have hkeep : ∀ k x, k < w1.heap.size → Value.ownBlock (.slice q L.length qc) ≠ some k → k ≠ w.heap.size → w1.heap[k]? = some x → (w3.setCell ⟨w.heap.size, 0, none⟩ (.slice (some ⟨g, 0, none⟩) (L.length + 1) gc)).heap[k]? = some x := fun k x hk hne hnb hx => by
          rw [Below.heap_setCell _ _ _ k (by simpa using hnb), hg3.block k (by simp; omega) (fun e => hne e.symm), Below.heap_alloc _ _ _ hk]
          exact hx
        have hgne : ∀ k, k < w1.heap.size → Value.ownBlock (.slice q L.length qc) ≠ some k → Value.ownBlock (.slice (some ⟨g, 0, none⟩) (L.length + 1) gc) ≠ some k := fun k hk hne e => by
          have hge : g = k := by simpa [Value.ownBlock] using e
          subst hge
          rcases hat with hat | hat
          · exact hne hat
          · omega
        have hbne : Value.ownBlock (.slice q L.length qc) ≠ some (w.heap.size + 1) := fun e => Kbs.not_row (by decide) Ko.row e.symm
        have hP4 : PBox (w3.setCell ⟨w.heap.size, 0, none⟩ (.slice (some ⟨g, 0, none⟩) (L.length + 1) gc)) Bx ⟨ck, cn, co, ca, cs, cp, cl, cc⟩ := by
          refine hkeep Bx _ hP1.lt (fun e => ?_) (fun e => ?_) hP1
          · rcases Ko.row.2 with ⟨hn, _⟩ | ⟨g', cap', cur, hv', _, hgb, _⟩
            · rw [hn] at e
              cases e
            · rw [hv'] at e
              have : g' = Bx := by simpa [Value.ownBlock] using e
              subst this
              have := hgb.symm.trans HX.out
              simp [PC.obj] at this
          · have := Kb.symm.trans (e ▸ HX.out)
            simp [PC.obj] at this
        have hP3 : PBox w3 Bx ⟨ck, cn, co, ca, cs, cp, cl, cc⟩ := by
          have hne : Value.ownBlock (.slice q L.length qc) ≠ some Bx := fun e => by
            rcases Ko.row.2 with ⟨hn, _⟩ | ⟨g', cap', cur, hv', _, hgb, _⟩
            · rw [hn] at e
              cases e
            · rw [hv'] at e
              have : g' = Bx := by simpa [Value.ownBlock] using e
              subst this
              have := hgb.symm.trans HX.out
              simp [PC.obj] at this
          exact (hg3.block Bx (by have := hP1.lt; simp; omega) (fun e => hne e.symm)).trans hP2
        refine anyIn_one (i := 5) hP3 rfl (by kernel_rfl) (fun K hK => ?_)
        go_simp
        refine hK _ _ ?_
        clear hK K
        refine anyIn_done hP4 (by kernel_rfl) ?_
        have Q1 : KeepsFrom W0.heap.size W (w3.setCell ⟨w.heap.size, 0, none⟩ (.slice (some ⟨g, 0, none⟩) (L.length + 1) gc)) := by
          refine ⟨?_, fun k x _ hk hx => ?_⟩
          · have h1 := hC1.size
            have h2 := hl4.size
            exact Nat.le_trans h1 hk4.size
          · have hlk := (Array.getElem?_eq_some_iff.1 hk).1
            exact hk4.same k x ((hC1.block k hlk).trans hk) hx
        have Q2 : KpB w.heap.size (w.heap.size + 1) W (w3.setCell ⟨w.heap.size, 0, none⟩ (.slice (some ⟨g, 0, none⟩) (L.length + 1) gc)) := by
          refine ⟨(hC1.mono (by omega)).trans hl4, ?_⟩
          have h1 : w1.heap[w.heap.size + 1]? = some _ := (hC1.block _ hWsz).trans Kbs
          rw [hkeep _ _ (by have := hC1.size; omega) hbne (by omega) h1]
          exact Kbs.symm
        have Q3 : PI w (.slice p lst.length cap) (List.map (fun x : BackEl wb lst => x.P) (pre ++ [⟨xi, ⟨ck, cn, co, ca, cs, cp, cl, cc⟩, xP, hxP, hxm⟩])) (w3.setCell ⟨w.heap.size, 0, none⟩ (.slice (some ⟨g, 0, none⟩) (L.length + 1) gc)) := by
          refine ⟨⟨_, L ++ [(v1, xP)], hs4, ⟨by simpa using hr4, fun y hy => ?_⟩, by rw [List.map_append, List.map_append, KL]; rfl⟩, (Kbl.trans (hC1.mono (by omega))).trans hl4, ?_⟩
          · rcases List.mem_append.1 hy with hy | hy
            · refine (Ko.els y hy).step (fun k x h0 h1 h2 h3 => ?_)
              have hlk := (Array.getElem?_eq_some_iff.1 h2).1
              have hlk1 : k < w1.heap.size := Nat.lt_of_lt_of_le hlk hC1.size
              exact ⟨hkeep k x hlk1 h1 (by omega) ((hC1.block k hlk).trans h2), hgne k hlk1 h1⟩
            · obtain rfl : y = (v1, xP) := by simpa using hy
              refine (hf1.off (o := Value.ownBlock (.slice q L.length qc)) (fun k hk => (hown1 k hk).2) (by omega)).step (fun k x h0 h1 h2 h3 => ?_)
              have hlk1 := (Array.getElem?_eq_some_iff.1 h2).1
              exact ⟨hkeep k x hlk1 h1 (by omega) h2, hgne k hlk1 h1⟩
          · exact hkeep _ _ (by have := hC1.size; omega) hbne (by omega) ((hC1.block _ hWsz).trans Kbs)
        exact ⟨Q1, Q2, Q3⟩
  case done =>
    rintro D ys W hD hys ⟨⟨v, L, hv, hown, hL⟩, hbl, hbs⟩ hK
    obtain ⟨q, qc, rfl, hqc, hqn, hqb⟩ := own_form hown.row
    have hLr : L.map (·.2) = lst.reverse := hL.trans hys
    have hLl : L.length = lst.length := by
      have := congrArg List.length hLr
      simpa using this
    have hlf : LFresh w.heap.size W q lst.reverse := by
      rw [← hLr]
      exact hown.line (by omega)
    have hc := hv.cell
    have hl2 := hv.lt
    gi_wp2
    refine ⟨by simp, .inl ⟨_, _, rfl, run_takeDeferred hK, ?_⟩⟩
    refine ⟨_, results_tmp rfl _ _ _, ?_⟩
    have hb4 : Below w.heap.size W (W.putObj D (.deferred none)) := belowK_b (w := W0) (by omega) W D _ _ hD hK rfl rfl
    refine PartsPost.mk q qc (by rw [← hLl]; rfl) (by omega) hqn (fun w'' h'' => hlf w'' (fun k x h0 h1 h2 => h'' k x h0 ?_ h2)) (hbl.trans hb4) (fun b hb => ⟨(hqb b hb).1, ?_⟩)
    · rw [World.putObj_heap_other (fun e => ?_)]
      · exact h1
      · subst e
        rw [hK] at h1
        cases h1
        cases h2
    · have := (hqb b hb).2.1
      simpa [World.putObj] using this
  case stop =>
    rintro D c pre W _ _ h _
    exact h.elim
end
end Go.Proofs.Ytjhfomfaddfklaa
