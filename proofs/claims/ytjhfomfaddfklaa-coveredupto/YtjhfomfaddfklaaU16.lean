/-
  The arguments of the laws of the layer matches opened: a pattern, a row, rows of rows.
-/
import Derived.Test.YtjhfomfaddfklaaU15
import Derived.ChangeSame
import Derived.ChangeArms
namespace Go.Proofs.Ytjhfomfaddfklaa
open Go.RowKit Go.Deep Go.ChangeShapes Go.Proofs.Ytjhfomfaddfklaa
theorem bulk_pos {H : Type} (d : DataW H) : 1 ≤ Rows.uptoBulk d := by
  cases d with
  | lit l => cases l <;> simp [Rows.uptoBulk]
  | _ => simp [Rows.uptoBulk]
theorem bulk_len {H : Type} : ∀ (es : List (DataW H)), es.length ≤ Rows.uptoBulkAll es
  | [] => by simp [Rows.uptoBulkAll]
  | e :: es => by
    have := bulk_len es
    have := bulk_pos e
    simp only [List.length_cons, Rows.uptoBulkAll]
    omega
section
variable {H : Type} {enc : TypeId × Value → H} {P : Program} {w : World} {base : Nat} {sp : Nat → Bool} {hd : Bool}
/-- A row opened: its elements' cells, each with what its reading says. -/
inductive RowIn {α : Type} (w : World) (n : Nat) (Q : List Value → DataW H → α → Prop) (cs : List Value) (d : DataW H) : Prop
  | mk (p : Option Addr) (cap : Nat) (us : List α) (es : List (DataW H)) (hcs : cs = [.slice p us.length cap]) (hm : us.length ≤ maxLen) (hcap : us.length ≤ cap) (hz : p = none → cap = 0) (hes : us.length = es.length) (hbulk : Rows.uptoBulkAll es + 1 ≤ Rows.uptoBulk d)
      (hat : ∀ i (hi : i < us.length), ∃ b o c, p = some ⟨b, o, none⟩ ∧ (∀ j, j < n → w.cell? ⟨b, o + (i * n + j), none⟩ = c[j]?) ∧ c.length = n ∧ ∃ (hi' : i < es.length), Q c (es[i]'hi') (us[i]'hi)) : RowIn w n Q cs d
theorem open_rowin {α : Type} [Inhabited α] {te ts : TypeId} {n : Nat} (hs : P.underlying ts = some (.slice te)) (hc : P.cellsOf te = n) (hn : 0 < n) (Q : List Value → DataW H → α → Prop) (fuel : Nat) (key : ∀ m, m < fuel → ∀ (cs : List Value) (x : DataW H × List MemPlace), DataW.trod enc P w base sp hd m te cs = some x → ∃ a, Q cs x.1 a)
    (cs : List Value) (x : DataW H × List MemPlace) (h : DataW.trod enc P w base sp hd fuel ts cs = some x) : RowIn w n Q cs x.1 := by
  rcases DataW.trod_slice hs h with ⟨rfl, rfl⟩ | ⟨a, len, cap, elems, rest, n', rfl, rfl, rfl, hb, hl, hmx, hel, hat, _, _⟩
  · exact RowIn.mk none 0 [] [] rfl (Nat.zero_le _) (Nat.zero_le _) (fun _ => rfl) rfl (by simp [Rows.uptoBulk, Rows.uptoBulkAll]) (fun i hi => absurd hi (Nat.not_lt_zero _))
  · rw [hc] at hat
    have k1 : ∀ i, i < len → ∃ q : List Value × α, (∀ j, j < n → w.cell? ((a.add (i * n)).add j) = q.1[j]?) ∧ q.1.length = n ∧ ∀ (hi' : i < elems.length), Q q.1 (elems[i]'hi').1 q.2 := by
      intro i hi
      have h1 := hat i hi
      rw [List.getElem?_eq_getElem (by omega)] at h1
      obtain ⟨cs', h2, h3⟩ := Option.bind_eq_some_iff.1 h1
      obtain ⟨T, hT⟩ := key n' (by omega) cs' _ h3
      obtain ⟨_, hl5, hcell⟩ := World.cells?_some h2
      exact ⟨(cs', T), hcell, hl5, fun _ => hT⟩
    obtain ⟨F, hF⟩ := choose_lt (α := List Value × α) k1
    have has : ((List.range len).map fun i => (F i).2).length = len := by simp
    refine RowIn.mk (some a) cap ((List.range len).map fun i => (F i).2) (elems.map (·.1)) (by rw [has]) (by rw [has]; omega) (by rw [has]; exact hl) (fun e => by cases e) (by rw [has]; simp [hel]) (by simp only [Rows.uptoBulk]; omega) ?_
    intro i hi
    rw [has] at hi
    obtain ⟨b, o, spot⟩ := a
    have hc0 := (hF 0 (by omega)).1 0 hn
    rw [List.getElem?_eq_getElem (by rw [(hF 0 (by omega)).2.1]; omega)] at hc0
    have hspot : spot = none := by simpa [Addr.add] using World.cell?_spot hc0
    subst hspot
    refine ⟨b, o, (F i).1, rfl, fun j hj => ?_, (hF i hi).2.1, by simp; omega, ?_⟩
    · have := (hF i hi).1 j hj
      rw [add_add, Go.WideShapes.add_plain] at this
      exact this
    · simp only [List.getElem_map, List.getElem_range]
      exact (hF i hi).2.2 (by omega)
theorem trod_struct6 {t : TypeId} {f0 f1 f2 f3 f4 f5 : Field} {fuel : Nat} {cs : List Value} {x : DataW H × List MemPlace} (ht : P.underlying t = some (.struct #[f0, f1, f2, f3, f4, f5])) (h : DataW.trod enc P w base sp hd fuel t cs = some x) :
    ∃ y0 y1 y2 y3 y4 y5 n, fuel = n + 1 ∧ cs.length = P.cellsOf t ∧ DataW.trod enc P w base sp hd n f0.type ((cs.drop f0.offset).take (P.cellsOf f0.type)) = some y0 ∧ DataW.trod enc P w base sp hd n f1.type ((cs.drop f1.offset).take (P.cellsOf f1.type)) = some y1 ∧ DataW.trod enc P w base sp hd n f2.type ((cs.drop f2.offset).take (P.cellsOf f2.type)) = some y2 ∧ DataW.trod enc P w base sp hd n f3.type ((cs.drop f3.offset).take (P.cellsOf f3.type)) = some y3 ∧ DataW.trod enc P w base sp hd n f4.type ((cs.drop f4.offset).take (P.cellsOf f4.type)) = some y4 ∧ DataW.trod enc P w base sp hd n f5.type ((cs.drop f5.offset).take (P.cellsOf f5.type)) = some y5 := by
  obtain ⟨xs, n, h1, h2, h3, h4, h5⟩ := DataW.trod_struct ht h
  match xs, h4 with
  | [y0, y1, y2, y3, y4, y5], _ => exact ⟨y0, y1, y2, y3, y4, y5, n, h1, h3, h5 0 f0 rfl, h5 1 f1 rfl, h5 2 f2 rfl, h5 3 f3 rfl, h5 4 f4 rfl, h5 5 f5 rfl⟩
end
section
variable {H : Type} {enc : TypeId × Value → H} {w : World} {base : Nat} {sp : Nat → Bool} {hd : Bool}
theorem cells26 : Try.prog.cellsOf 26 = 6 := by kernel_rfl
theorem cells9 : Try.prog.cellsOf 9 = 1 := by kernel_rfl
theorem cells3 : Try.prog.cellsOf 3 = 1 := by kernel_rfl
theorem cells23 : Try.prog.cellsOf 23 = 1 := by kernel_rfl
theorem wf_le {k : Int} (h : (Lit.int .i64 k).wf = true) : k ≤ 9223372036854775807 := by
  have h2 : IntKind.i64.max = 9223372036854775807 := rfl
  simp only [Lit.wf, Bool.and_eq_true, decide_eq_true_eq] at h
  omega
set_option maxRecDepth 100000 in
/-- A pattern, opened. -/
theorem open_pt : ∀ (fuel : Nat) (cs : List Value) (x : DataW H × List MemPlace), DataW.trod enc Try.prog w base sp hd fuel 26 cs = some x → ∃ (c : PC) (T : Pt), cs = c.vals ∧ PtIn w c T := by
  intro fuel
  induction fuel using Nat.strongRecOn with
  | _ fuel ih =>
    intro cs x h
    obtain ⟨y0, y1, y2, y3, y4, y5, n, rfl, hlen, e0, e1, e2, e3, e4, e5⟩ := trod_struct6 Try.underlying26 h
    rw [cells26] at hlen
    simp only [cells3, cells9, cells23] at e0 e1 e2 e3 e4 e5
    match cs, hlen with
    | [c0, c1, c2, c3, c4, c5], _ =>
      obtain ⟨k0, h0, _, w0⟩ := DataW.trod_int Try.underlying3 e0
      obtain ⟨k1, h1, _, w1⟩ := DataW.trod_int Try.underlying3 e1
      obtain ⟨k2, h2, _, w2⟩ := DataW.trod_int Try.underlying3 e2
      obtain ⟨k3, h3, _, w3⟩ := DataW.trod_int Try.underlying3 e3
      obtain ⟨s, h4, _, _⟩ := DataW.trod_string Try.underlying9 e4
      have hr := open_rowin Try.underlying23 cells26 (by omega) (fun cs (_ : DataW H) (T : Pt) => ∃ c : PC, cs = c.vals ∧ PtIn w c T) n (fun m hm cs x h => by obtain ⟨c, T, a, b⟩ := ih m (by omega) cs x h; exact ⟨T, c, a, b⟩) _ _ e5
      cases hr with
      | mk p cap us es hcs hmx hcap hz hes hbulk hat =>
      simp at h0 h1 h2 h3 h4 hcs
      subst h0 h1 h2 h3 h4 hcs
      refine ⟨⟨k0, k1, k2, k3, s, p, us.length, cap⟩, .mk k0 k1 k2 k3 s us, rfl, ?_⟩
      by_cases hzz : us.length = 0
      · obtain rfl := List.length_eq_zero_iff.1 hzz
        exact PtIn.mk ⟨k0, k1, k2, k3, s, p, 0, cap⟩ [] 0 0 (fun _ => PC.any) rfl (Nat.zero_le _) hcap hz (wf_le w2) (fun h => absurd rfl h) (fun _ hi => absurd hi (Nat.not_lt_zero _)) (fun _ hi => absurd hi (Nat.not_lt_zero _))
      · obtain ⟨b, o, _, rfl, _, _, _, _⟩ := hat 0 (by omega)
        have k2' : ∀ i, i < us.length → ∃ c : PC, Cells6 w b (o + i * 6) c ∧ ∀ (hi : i < us.length), PtIn w c (us[i]'hi) := by
          intro i hi
          obtain ⟨b', o', cc, hbo, hc, _, _, c, rfl, hT⟩ := hat i hi
          simp only [Option.some.injEq, Addr.mk.injEq, and_true] at hbo
          obtain ⟨rfl, rfl⟩ := hbo
          have g : ∀ j, j < 6 → w.cell? ⟨b, o + i * 6 + j, none⟩ = c.vals[j]? := fun j hj => by rw [Nat.add_assoc]; exact hc j hj
          exact ⟨c, ⟨g 0 (by omega), g 1 (by omega), g 2 (by omega), g 3 (by omega), g 4 (by omega), g 5 (by omega)⟩, fun _ => hT⟩
        obtain ⟨C, hC⟩ := choose_lt (α := PC) k2'
        exact PtIn.mk ⟨k0, k1, k2, k3, s, some ⟨b, o, none⟩, us.length, cap⟩ us b o C rfl hmx hcap hz (wf_le w2) (fun _ => rfl) (fun i hi => (hC i hi).1) (fun i hi => (hC i hi).2 hi)
/-- A row of patterns, opened. -/
theorem open_row (fuel : Nat) (cs : List Value) (x : DataW H × List MemPlace) (h : DataW.trod enc Try.prog w base sp hd fuel 23 cs = some x) : ∃ p cap l, cs = [.slice p (l : List Pt).length cap] ∧ RowAt w w p l ∧ l.length ≤ cap ∧ l.length + 1 ≤ Rows.uptoBulk x.1 := by
  have hr := open_rowin Try.underlying23 cells26 (by omega) (fun cs (_ : DataW H) (T : Pt) => ∃ c : PC, cs = c.vals ∧ PtIn w c T) fuel (fun m _ cs x h => by obtain ⟨c, T, a, b⟩ := open_pt m cs x h; exact ⟨T, c, a, b⟩) cs x h
  cases hr with
  | mk p cap us es hcs hm hcap hz hes hbulk hat =>
  refine ⟨p, cap, us, hcs, ⟨hm, fun i hi => ?_⟩, hcap, by have := bulk_len es; omega⟩
  obtain ⟨b, o, cc, rfl, hc, _, _, c, rfl, hT⟩ := hat i hi
  have g : ∀ j, j < 6 → w.cell? ⟨b, o + i * 6 + j, none⟩ = c.vals[j]? := fun j hj => by rw [Nat.add_assoc]; exact hc j hj
  exact ⟨b, o, c, rfl, ⟨g 0 (by omega), g 1 (by omega), g 2 (by omega), g 3 (by omega), g 4 (by omega), g 5 (by omega)⟩, hT⟩
/-- Rows of rows, opened. -/
theorem open_mat (fuel : Nat) (cs : List Value) (x : DataW H × List MemPlace) (h : DataW.trod enc Try.prog w base sp hd fuel 22 cs = some x) : ∃ p cap m, cs = [.slice p (m : List (List Pt)).length cap] ∧ MatAt w w p m ∧ m.length ≤ cap ∧ m.length + 1 ≤ Rows.uptoBulk x.1 := by
  have hr := open_rowin Try.underlying22 cells23 (by omega) (fun cs (_ : DataW H) (l : List Pt) => ∃ p cap, cs = [.slice p l.length cap] ∧ RowAt w w p l ∧ l.length ≤ cap) fuel (fun m _ cs x h => by obtain ⟨p, cap, l, a, b, c, _⟩ := open_row m cs x h; exact ⟨l, p, cap, a, b, c⟩) cs x h
  cases hr with
  | mk p cap us es hcs hm hcap hz hes hbulk hat =>
  refine ⟨p, cap, us, hcs, ⟨hm, fun i hi => ?_⟩, hcap, by have := bulk_len es; omega⟩
  obtain ⟨b, o, cc, rfl, hc, _, _, q, qc, rfl, hR, hcap2⟩ := hat i hi
  have g0 := hc 0 (by omega)
  simp only [Nat.mul_one, Nat.add_zero, List.getElem?_cons_zero] at g0
  exact ⟨b, o, q, qc, rfl, g0, hcap2, hR⟩
end
end Go.Proofs.Ytjhfomfaddfklaa
