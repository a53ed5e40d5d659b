/-
  The arguments of the law Covered opened: patterns with their numbers and how many parts they have.
-/
import Derived.Test.YtjhfomfaddfklaaU16
import Derived.Test.YtjhfomfaddfklaaU30
namespace Go.Proofs.Ytjhfomfaddfklaa
open Go.RowKit Go.Deep Go.ChangeShapes Go.Proofs.Ytjhfomfaddfklaa
theorem wf_ge {k : Int} (h : (Lit.int .i64 k).wf = true) : -9223372036854775808 ≤ k := by
  have h2 : IntKind.i64.min = -9223372036854775808 := rfl
  simp only [Lit.wf, Bool.and_eq_true, decide_eq_true_eq] at h
  omega
section
variable {H : Type} {enc : TypeId × Value → H} {P : Program} {w : World} {base : Nat} {sp : Nat → Bool} {hd : Bool}
theorem trod_struct6b {t : TypeId} {f0 f1 f2 f3 f4 f5 : Field} {fuel : Nat} {cs : List Value} {x : DataW H × List MemPlace} (ht : P.underlying t = some (.struct #[f0, f1, f2, f3, f4, f5])) (h : DataW.trod enc P w base sp hd fuel t cs = some x) :
    ∃ y0 y1 y2 y3 y4 y5 n, fuel = n + 1 ∧ cs.length = P.cellsOf t ∧ DataW.trod enc P w base sp hd n f0.type ((cs.drop f0.offset).take (P.cellsOf f0.type)) = some y0 ∧ DataW.trod enc P w base sp hd n f1.type ((cs.drop f1.offset).take (P.cellsOf f1.type)) = some y1 ∧ DataW.trod enc P w base sp hd n f2.type ((cs.drop f2.offset).take (P.cellsOf f2.type)) = some y2 ∧ DataW.trod enc P w base sp hd n f3.type ((cs.drop f3.offset).take (P.cellsOf f3.type)) = some y3 ∧ DataW.trod enc P w base sp hd n f4.type ((cs.drop f4.offset).take (P.cellsOf f4.type)) = some y4 ∧ DataW.trod enc P w base sp hd n f5.type ((cs.drop f5.offset).take (P.cellsOf f5.type)) = some y5 ∧ Rows.uptoBulk y5.1 + 1 ≤ Rows.uptoBulk x.1 := by
  obtain ⟨xs, n, h1, h2, h3, h4, h5⟩ := DataW.trod_struct ht h
  match xs, h4 with
  | [y0, y1, y2, y3, y4, y5], _ =>
    refine ⟨y0, y1, y2, y3, y4, y5, n, h1, h3, h5 0 f0 rfl, h5 1 f1 rfl, h5 2 f2 rfl, h5 3 f3 rfl, h5 4 f4 rfl, h5 5 f5 rfl, ?_⟩
    rw [h2]
    simp only [Rows.uptoBulk, Rows.uptoBulkAll, List.map_cons, List.map_nil]
    omega
end
theorem cnt_bulk {H : Type} : ∀ (us : List Pt) (es : List (DataW H)) (_ : us.length = es.length) (_ : ∀ i (hi : i < us.length) (hi' : i < es.length), cntP (us[i]'hi) ≤ Rows.uptoBulk (es[i]'hi')), cntL us ≤ Rows.uptoBulkAll es
  | [], _, _, _ => by simp [cntL]
  | u :: us, [], h, _ => by cases h
  | u :: us, e :: es, h, hb => by
    have h0 := hb 0 (by simp) (by simp)
    have hr := cnt_bulk us es (by simpa using h) (fun i hi hi' => hb (i + 1) (Nat.succ_lt_succ hi) (Nat.succ_lt_succ hi'))
    simp only [List.getElem_cons_zero] at h0
    simp only [cntL, Rows.uptoBulkAll]
    omega
section
variable {H : Type} {enc : TypeId × Value → H} {w : World} {base : Nat} {sp : Nat → Bool} {hd : Bool}
set_option maxRecDepth 100000 in
/-- A pattern, opened. -/
theorem open_pt2 : ∀ (fuel : Nat) (cs : List Value) (x : DataW H × List MemPlace), DataW.trod enc Try.prog w base sp hd fuel 26 cs = some x → ∃ (c : PC) (T : Pt), cs = c.vals ∧ PtIn w c T ∧ T.low = true ∧ cntP T ≤ Rows.uptoBulk x.1 := by
  intro fuel
  induction fuel using Nat.strongRecOn with
  | _ fuel ih =>
    intro cs x h
    obtain ⟨y0, y1, y2, y3, y4, y5, n, rfl, hlen, e0, e1, e2, e3, e4, e5, hbk⟩ := trod_struct6b Try.underlying26 h
    rw [cells26] at hlen
    simp only [cells3, cells9, cells23] at e0 e1 e2 e3 e4 e5
    match cs, hlen with
    | [c0, c1, c2, c3, c4, c5], _ =>
      obtain ⟨k0, h0, _, w0⟩ := DataW.trod_int Try.underlying3 e0
      obtain ⟨k1, h1, _, w1⟩ := DataW.trod_int Try.underlying3 e1
      obtain ⟨k2, h2, _, w2⟩ := DataW.trod_int Try.underlying3 e2
      obtain ⟨k3, h3, _, w3⟩ := DataW.trod_int Try.underlying3 e3
      obtain ⟨s, h4, _, _⟩ := DataW.trod_string Try.underlying9 e4
      have hr := open_rowin Try.underlying23 cells26 (by omega) (fun cs (d : DataW H) (T : Pt) => ∃ c : PC, cs = c.vals ∧ PtIn w c T ∧ T.low = true ∧ cntP T ≤ Rows.uptoBulk d) n (fun m hm cs x h => by obtain ⟨c, T, a, b, c1, d1⟩ := ih m (by omega) cs x h; exact ⟨T, c, a, b, c1, d1⟩) _ _ e5
      cases hr with
      | mk p cap us es hcs hmx hcap hz hes hbulk hat =>
      simp at h0 h1 h2 h3 h4 hcs
      subst h0 h1 h2 h3 h4 hcs
      have hlow : (Pt.mk k0 k1 k2 k3 s us).low = true := by
        rw [Pt.low]
        simp only [Bool.and_eq_true, decide_eq_true_eq]
        refine ⟨wf_ge w0, wf_ge w1, Pt.lowL_mem.2 (fun x hx => ?_)⟩
        obtain ⟨i, hi, rfl⟩ := List.getElem_of_mem hx
        obtain ⟨_, _, _, _, _, _, _, _, _, _, hT, _⟩ := hat i hi
        exact hT
      have hcnt : cntP (Pt.mk k0 k1 k2 k3 s us) ≤ Rows.uptoBulk x.1 := by
        have := cnt_bulk us es hes (fun i hi hi' => by
          obtain ⟨_, _, _, _, _, _, _, _, _, _, _, hT⟩ := hat i hi
          exact hT)
        rw [cntP]
        omega
      refine ⟨⟨k0, k1, k2, k3, s, p, us.length, cap⟩, .mk k0 k1 k2 k3 s us, rfl, ?_, hlow, hcnt⟩
      by_cases hzz : us.length = 0
      · obtain rfl := List.length_eq_zero_iff.1 hzz
        exact PtIn.mk ⟨k0, k1, k2, k3, s, p, 0, cap⟩ [] 0 0 (fun _ => PC.any) rfl (Nat.zero_le _) hcap hz (wf_le w2) (fun h => absurd rfl h) (fun _ hi => absurd hi (Nat.not_lt_zero _)) (fun _ hi => absurd hi (Nat.not_lt_zero _))
      · obtain ⟨b, o, _, rfl, _, _, _, _⟩ := hat 0 (by omega)
        have k2' : ∀ i, i < us.length → ∃ c : PC, Cells6 w b (o + i * 6) c ∧ ∀ (hi : i < us.length), PtIn w c (us[i]'hi) := by
          intro i hi
          obtain ⟨b', o', cc, hbo, hc, _, _, c, rfl, hT, _⟩ := hat i hi
          simp only [Option.some.injEq, Addr.mk.injEq, and_true] at hbo
          obtain ⟨rfl, rfl⟩ := hbo
          have g : ∀ j, j < 6 → w.cell? ⟨b, o + i * 6 + j, none⟩ = c.vals[j]? := fun j hj => by rw [Nat.add_assoc]; exact hc j hj
          exact ⟨c, ⟨g 0 (by omega), g 1 (by omega), g 2 (by omega), g 3 (by omega), g 4 (by omega), g 5 (by omega)⟩, fun _ => hT⟩
        obtain ⟨C, hC⟩ := choose_lt (α := PC) k2'
        exact PtIn.mk ⟨k0, k1, k2, k3, s, some ⟨b, o, none⟩, us.length, cap⟩ us b o C rfl hmx hcap hz (wf_le w2) (fun _ => rfl) (fun i hi => (hC i hi).1) (fun i hi => (hC i hi).2 hi)
theorem cnt_mem : ∀ (l : List Pt) (y : Pt), y ∈ l → cntP y ≤ cntL l := fun l => by
  induction l with
  | nil => intro y hy; cases hy
  | cons z l ih =>
    intro y hy
    rw [cntL]
    rcases List.mem_cons.1 hy with rfl | hy
    · omega
    · have := ih y hy; omega
/-- A row of patterns, opened. -/
theorem open_row2 (fuel : Nat) (cs : List Value) (x : DataW H × List MemPlace) (h : DataW.trod enc Try.prog w base sp hd fuel 23 cs = some x) : ∃ p cap l, cs = [.slice p (l : List Pt).length cap] ∧ RowAt w w p l ∧ l.length ≤ cap ∧ ∀ y ∈ l, y.low = true ∧ cntP y ≤ Rows.uptoBulk x.1 := by
  have hr := open_rowin Try.underlying23 cells26 (by omega) (fun cs (d : DataW H) (T : Pt) => ∃ c : PC, cs = c.vals ∧ PtIn w c T ∧ T.low = true ∧ cntP T ≤ Rows.uptoBulk d) fuel (fun m _ cs x h => by obtain ⟨c, T, a, b, c1, d1⟩ := open_pt2 m cs x h; exact ⟨T, c, a, b, c1, d1⟩) cs x h
  cases hr with
  | mk p cap us es hcs hm hcap hz hes hbulk hat =>
  have hle := cnt_bulk us es hes (fun i hi hi' => by
    obtain ⟨_, _, _, _, _, _, _, _, _, _, _, hT⟩ := hat i hi
    exact hT)
  refine ⟨p, cap, us, hcs, ⟨hm, fun i hi => ?_⟩, hcap, fun y hy => ?_⟩
  · obtain ⟨b, o, cc, rfl, hc, _, _, c, rfl, hT, _⟩ := hat i hi
    have g : ∀ j, j < 6 → w.cell? ⟨b, o + i * 6 + j, none⟩ = c.vals[j]? := fun j hj => by rw [Nat.add_assoc]; exact hc j hj
    exact ⟨b, o, c, rfl, ⟨g 0 (by omega), g 1 (by omega), g 2 (by omega), g 3 (by omega), g 4 (by omega), g 5 (by omega)⟩, hT⟩
  · have hle2 := cnt_mem us _ hy
    obtain ⟨i, hi, rfl⟩ := List.getElem_of_mem hy
    obtain ⟨_, _, _, _, _, _, _, _, _, _, hT, _⟩ := hat i hi
    exact ⟨hT, by omega⟩
end
section
variable {H : Type} {enc : TypeId × Value → H} {P : Program} {w : World} {base : Nat} {spare : Nat → Bool} {held : Bool}
theorem trodAll_four {t t' t'' u : TypeId} {args : Array Value} {ds : List (DataW H)} {ps : List MemPlace} (h : DataW.TrodAll enc P w base spare held [t, t', t'', u] args.toList ds ps) :
    ∃ v v' v'' x d d' d'' e p p' p'' q, args = #[v, v', v'', x] ∧ ds = [d, d', d'', e] ∧ ps = p ++ (p' ++ (p'' ++ q)) ∧ DataW.Trod enc P w base spare held t v d p ∧ DataW.Trod enc P w base spare held t' v' d' p' ∧ DataW.Trod enc P w base spare held t'' v'' d'' p'' ∧ DataW.Trod enc P w base spare held u x e q := by
  obtain ⟨v, vs, d, ds', p, q, hargs, rfl, rfl, hd, hrest⟩ := trodAll_cons h
  obtain ⟨v', vs', d', ds'', p', q', rfl, rfl, rfl, hd', hrest'⟩ := trodAll_cons hrest
  obtain ⟨v'', vs'', d'', dsc, p'', q'', rfl, rfl, rfl, hd'', hrest''⟩ := trodAll_cons hrest'
  obtain ⟨x, vs3, e, ds4, p3, q3, rfl, rfl, rfl, hd3, hrest3⟩ := trodAll_cons hrest''
  obtain ⟨rfl, rfl, rfl⟩ := trodAll_nil hrest3
  exact ⟨v, v', v'', x, d, d', d'', e, p, p', p'', p3, by cases args; simp_all, rfl, by simp, hd, hd', hd'', hd3⟩
theorem trodAll_mk4 {t t' t'' u : TypeId} {v v' v'' x : Value} {d d' d'' e : DataW H} {p p' p'' q : List MemPlace} (h : DataW.Trod enc P w base spare held t v d p) (h' : DataW.Trod enc P w base spare held t' v' d' p')
    (h'' : DataW.Trod enc P w base spare held t'' v'' d'' p'') (h3 : DataW.Trod enc P w base spare held u x e q) : DataW.TrodAll enc P w base spare held [t, t', t'', u] [v, v', v'', x] [d, d', d'', e] (p ++ (p' ++ (p'' ++ q))) := ⟨p, p' ++ (p'' ++ q), h, trodAll_mk3 h' h'' h3, rfl⟩
end
end Go.Proofs.Ytjhfomfaddfklaa
