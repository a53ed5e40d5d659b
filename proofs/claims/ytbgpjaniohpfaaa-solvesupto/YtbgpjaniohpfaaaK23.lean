/-
  The arguments of Solves and General opened: rows of pairs, rows of binds, and what their bulk bounds.
-/
import Derived.Test.YtbgpjaniohpfaaaRows
import Derived.Test.YtbgpjaniohpfaaaK22
import Derived.ChangeSame
import Derived.ChangeArms
namespace Go.Proofs.Ytbgpjaniohpfaaa
open Go.RowKit Go.Deep Go.ChangeShapes
theorem bulk_mem {H : Type} {d : DataW H} : ∀ {l : List (DataW H)}, d ∈ l → Rows.uptoBulk d ≤ Rows.uptoBulkAll l
  | a :: l, h => by
    rw [Rows.uptoBulkAll]
    rcases List.mem_cons.1 h with rfl | h
    · omega
    · have := bulk_mem h
      omega
theorem countL_le {H : Type} : ∀ (ts : List Ty) (es : List (DataW H)), ts.length = es.length → (∀ i (h : i < ts.length) (h' : i < es.length), (ts[i]'h).count ≤ Rows.uptoBulk (es[i]'h')) → Ty.countL ts ≤ Rows.uptoBulkAll es
  | [], _, _, _ => by simp [Ty.countL]
  | t :: ts, [], h, _ => by simp at h
  | t :: ts, e :: es, h, hk => by
    rw [Ty.countL, Rows.uptoBulkAll]
    have h0 := hk 0 (by simp) (by simp)
    have h1 := countL_le ts es (by simpa using h) (fun i hi hi' => by have := hk (i + 1) (by simp; omega) (by simp; omega); simpa using this)
    simp at h0
    omega
theorem allCount_le {H : Type} : ∀ (ps : List (Ty × Ty)) (es : List (DataW H)) (m : Nat), ps.length = es.length → (∀ i (h : i < ps.length) (h' : i < es.length), (ps[i]'h).1.count + (ps[i]'h).2.count ≤ Rows.uptoBulk (es[i]'h')) → ps.foldl (fun n p => n + (p.1.count + p.2.count)) m ≤ m + Rows.uptoBulkAll es
  | [], _, m, _, _ => by simp
  | t :: ts, [], m, h, _ => by simp at h
  | t :: ts, e :: es, m, h, hk => by
    rw [List.foldl_cons, Rows.uptoBulkAll]
    have h0 := hk 0 (by simp) (by simp)
    have h1 := allCount_le ts es (m + (t.1.count + t.2.count)) (by simpa using h) (fun i hi hi' => by have := hk (i + 1) (by simp; omega) (by simp; omega); simpa using this)
    simp at h0
    omega
section
variable {H : Type} {enc : TypeId × Value → H} {P : Program} {w : World} {base : Nat} {sp : Nat → Bool} {hd : Bool}
/-- A row opened: its elements' cells, each with what its reading says. -/
inductive RowIn {α : Type} (w : World) (n : Nat) (Q : List Value → DataW H → α → Prop) (cs : List Value) (d : DataW H) : Prop
  | mk (p : Option Addr) (cap : Nat) (us : List α) (es : List (DataW H)) (hcs : cs = [.slice p us.length cap]) (hm : us.length ≤ maxLen) (hcap : us.length ≤ cap) (hes : us.length = es.length) (hbulk : Rows.uptoBulkAll es + 1 ≤ Rows.uptoBulk d)
      (hat : ∀ i (hi : i < us.length), ∃ b o c, p = some ⟨b, o, none⟩ ∧ (∀ j, j < n → w.cell? ⟨b, o + (i * n + j), none⟩ = c[j]?) ∧ c.length = n ∧ ∃ (hi' : i < es.length), Q c (es[i]'hi') (us[i]'hi)) : RowIn w n Q cs d
theorem open_rowin {α : Type} [Inhabited α] {te ts : TypeId} {n : Nat} (hs : P.underlying ts = some (.slice te)) (hc : P.cellsOf te = n) (hn : 0 < n) (Q : List Value → DataW H → α → Prop) (fuel : Nat) (key : ∀ m, m < fuel → ∀ (cs : List Value) (x : DataW H × List MemPlace), DataW.trod enc P w base sp hd m te cs = some x → ∃ a, Q cs x.1 a)
    (cs : List Value) (x : DataW H × List MemPlace) (h : DataW.trod enc P w base sp hd fuel ts cs = some x) : RowIn w n Q cs x.1 := by
  rcases DataW.trod_slice hs h with ⟨rfl, rfl⟩ | ⟨a, len, cap, elems, rest, n', rfl, rfl, rfl, hb, hl, hmx, hel, hat, _, _⟩
  · exact RowIn.mk none 0 [] [] rfl (Nat.zero_le _) (Nat.zero_le _) rfl (by simp [Rows.uptoBulk, Rows.uptoBulkAll]) (fun i hi => absurd hi (Nat.not_lt_zero _))
  · rw [hc] at hat
    have k1 : ∀ i, i < len → ∃ q : List Value × α, (∀ j, j < n → w.cell? ((a.add (i * n)).add j) = q.1[j]?) ∧ q.1.length = n ∧ ∀ (hi' : i < elems.length), Q q.1 (elems[i]'hi').1 q.2 := by
      intro i hi
      have h1 := hat i hi
      rw [List.getElem?_eq_getElem (by omega)] at h1
      obtain ⟨cs', h2, h3⟩ := Option.bind_eq_some_iff.1 h1
      obtain ⟨T, hT⟩ := key n' (by omega) cs' _ h3
      obtain ⟨_, hl5, hcell⟩ := World.cells?_some h2
      exact ⟨(cs', T), hcell, hl5, fun _ => hT⟩
    obtain ⟨F, hF⟩ := choose_lt (α := List Value × α) k1
    have has : ((List.range len).map fun i => (F i).2).length = len := by simp
    refine RowIn.mk (some a) cap ((List.range len).map fun i => (F i).2) (elems.map (·.1)) (by rw [has]) (by rw [has]; omega) (by rw [has]; exact hl) (by rw [has]; simp [hel]) (by simp only [Rows.uptoBulk]; omega) ?_
    intro i hi
    rw [has] at hi
    obtain ⟨b, o, spot⟩ := a
    have hc0 := (hF 0 (by omega)).1 0 hn
    rw [List.getElem?_eq_getElem (by rw [(hF 0 (by omega)).2.1]; omega)] at hc0
    have hspot : spot = none := by simpa [Addr.add] using World.cell?_spot hc0
    subst hspot
    refine ⟨b, o, (F i).1, rfl, fun j hj => ?_, (hF i hi).2.1, by simp; omega, ?_⟩
    · have := (hF i hi).1 j hj
      rw [add_add, Go.WideShapes.add_plain] at this
      exact this
    · simp only [List.getElem_map, List.getElem_range]
      exact (hF i hi).2.2 (by omega)
end
section
variable {H : Type} {enc : TypeId × Value → H} {w : World} {base : Nat} {sp : Nat → Bool} {hd : Bool}
theorem cells33 : Try.prog.cellsOf 33 = 5 := by kernel_rfl
theorem cells38 : Try.prog.cellsOf 38 = 10 := by kernel_rfl
theorem cells35 : Try.prog.cellsOf 35 = 6 := by kernel_rfl
set_option maxRecDepth 100000 in
theorem tyShape : ∃ f0 f1 f2 f3 f4, TyShape Try.prog 33 31 3 9 f0 f1 f2 f3 f4 := ⟨_, _, _, _, _, ⟨Try.underlying33, by kernel_rfl, Try.underlying31, Try.underlying3, Try.underlying9, by kernel_rfl, by kernel_rfl, by kernel_rfl, ⟨rfl, rfl, rfl, rfl, rfl⟩, ⟨rfl, rfl, rfl, rfl, rfl⟩⟩⟩
theorem trod5 {x0 x1 x2 x3 x4 : DataW H} : Rows.uptoBulk (DataW.agg [x0, x1, x2, x3, x4]) = Rows.uptoBulk x0 + (Rows.uptoBulk x1 + (Rows.uptoBulk x2 + (Rows.uptoBulk x3 + (Rows.uptoBulk x4 + 0)))) + 1 := by simp only [Rows.uptoBulk, Rows.uptoBulkAll]
theorem open_tyB {te ts ti tx : TypeId} {f0 f1 f2 f3 f4 : Field} {P : Program} (S : TyShape P te ts ti tx f0 f1 f2 f3 f4) : ∀ (fuel : Nat) (cs : List Value) (x : DataW H × List MemPlace), DataW.trod enc P w base sp hd fuel te cs = some x → ∃ T : Ty, TyIn w cs T ∧ T.count ≤ Rows.uptoBulk x.1 := by
  intro fuel
  induction fuel using Nat.strongRecOn with
  | _ fuel ih =>
    intro cs x h
    obtain ⟨xs, n, rfl, rfl, hlen, hx5, hf⟩ := DataW.trod_struct S.he h
    obtain ⟨o0, o1, o2, o3, o4⟩ := S.o
    obtain ⟨t0, t1, t2, t3, t4⟩ := S.t
    rw [S.hc] at hlen
    have e0 := hf 0 f0 rfl
    have e1 := hf 1 f1 rfl
    have e2 := hf 2 f2 rfl
    have e3 := hf 3 f3 rfl
    have e4 := hf 4 f4 rfl
    rw [o0, t0, S.ci] at e0
    rw [o1, t1, S.ci] at e1
    rw [o2, t2, S.cx] at e2
    rw [o3, t3, S.ci] at e3
    rw [o4, t4, S.cs] at e4
    match cs, hlen with
    | [c0, c1, c2, c3, c4], _ =>
      have hx : ∀ i, i < 5 → ∃ y, xs[i]? = some y := fun i hi => ⟨xs[i]'(by rw [hx5]; exact hi), List.getElem?_eq_getElem _⟩
      obtain ⟨y0, g0⟩ := hx 0 (by omega)
      obtain ⟨y1, g1⟩ := hx 1 (by omega)
      obtain ⟨y2, g2⟩ := hx 2 (by omega)
      obtain ⟨y3, g3⟩ := hx 3 (by omega)
      obtain ⟨y4, g4⟩ := hx 4 (by omega)
      obtain ⟨k, hk, _, wk⟩ := DataW.trod_int S.hi (e0.trans g0)
      obtain ⟨m, hm, _, wm⟩ := DataW.trod_int S.hi (e1.trans g1)
      obtain ⟨s, hs, _, ws⟩ := DataW.trod_string S.hx (e2.trans g2)
      obtain ⟨e, he, _, we⟩ := DataW.trod_int S.hi (e3.trans g3)
      obtain rfl : c0 = .int .i64 k := by simpa using hk
      obtain rfl : c1 = .int .i64 m := by simpa using hm
      obtain rfl : c2 = .string s := by simpa using hs
      obtain rfl : c3 = .int .i64 e := by simpa using he
      have hy4 : Rows.uptoBulk y4.1 ≤ Rows.uptoBulkAll (xs.map (·.1)) := bulk_mem (List.mem_map.2 ⟨y4, List.mem_of_getElem? g4, rfl⟩)
      have hr := open_rowin S.hs S.hc (by omega) (fun cs d T => TyIn w cs T ∧ T.count ≤ Rows.uptoBulk d) n (fun m hm cs x h => ih m (by omega) cs x h) _ _ (e4.trans g4)
      cases hr with
      | mk p cap us es hcs hmx hcap hes hbulk hat =>
      obtain rfl : c4 = .slice p us.length cap := by simpa using hcs
      refine ⟨.mk k m s e us, ?_, ?_⟩
      · by_cases hz : us.length = 0
        · obtain rfl := List.length_eq_zero_iff.1 hz
          exact TyIn.mk k m s e [] p cap 0 0 (fun _ => []) (fun h => absurd rfl h) ⟨wk, wm, we, ws, Nat.zero_le _, Nat.zero_le _⟩ (fun i hi => absurd hi (Nat.not_lt_zero _)) (fun i hi => absurd hi (Nat.not_lt_zero _))
        · obtain ⟨b, o, _, rfl, _, _, _, _⟩ := hat 0 (by omega)
          have k2 : ∀ i, i < us.length → ∃ c : List Value, (∀ j, j < 5 → w.cell? ⟨b, o + (i * 5 + j), none⟩ = c[j]?) ∧ ∀ (hi : i < us.length), TyIn w c (us[i]'hi) := by
            intro i hi
            obtain ⟨b', o', c, hbo, hc, _, _, hT, _⟩ := hat i hi
            simp only [Option.some.injEq, Addr.mk.injEq, and_true] at hbo
            obtain ⟨rfl, rfl⟩ := hbo
            exact ⟨c, hc, fun _ => hT⟩
          obtain ⟨C, hC⟩ := choose_lt (α := List Value) k2
          exact TyIn.mk k m s e us (some ⟨b, o, none⟩) cap b o C (fun _ => rfl) ⟨wk, wm, we, ws, hmx, hcap⟩ (fun i hi => (hC i hi).1) (fun i hi => (hC i hi).2 hi)
      · have h1 : Ty.countL us ≤ Rows.uptoBulkAll es := countL_le us es hes (fun i hi hi' => by obtain ⟨_, _, _, _, _, _, _, _, h⟩ := hat i hi; exact h)
        rw [Ty.count]
        simp only [Rows.uptoBulk]
        omega
/-- A row of pairs, opened. -/
theorem open_pairs (fuel : Nat) (cs : List Value) (x : DataW H × List MemPlace) (h : DataW.trod enc Try.prog w base sp hd fuel 22 cs = some x) : ∃ p cap ps, cs = [.slice p (ps : List (Ty × Ty)).length cap] ∧ PairsIn w p ps ∧ allCount ps ≤ Rows.uptoBulk x.1 := by
  obtain ⟨f0, f1, f2, f3, f4, S⟩ := tyShape
  have hr := open_rowin Try.underlying22 cells38 (by omega) (fun cs d (pr : Ty × Ty) => ∃ ca cb, cs = ca ++ cb ∧ TyIn w ca pr.1 ∧ TyIn w cb pr.2 ∧ pr.1.count + pr.2.count ≤ Rows.uptoBulk d) fuel (fun m hm cs x h => by
    obtain ⟨y0, y1, n, rfl, hl, h0, h1⟩ := trod_struct2 Try.underlying38 h
    rw [cells38] at hl
    rw [cells33] at h0 h1
    obtain ⟨A, hA, cA⟩ := open_tyB S _ _ _ h0
    obtain ⟨B, hB, cB⟩ := open_tyB S _ _ _ h1
    refine ⟨(A, B), _, _, ?_, hA, hB, ?_⟩
    · rw [List.drop_zero, List.take_of_length_le (l := cs.drop 5) (by simp; omega), List.take_append_drop]
    · simp only [Rows.uptoBulk, Rows.uptoBulkAll]
      omega) cs x h
  cases hr with
  | mk p cap us es hcs hm hcap hes hbulk hat =>
  refine ⟨p, cap, us, hcs, ⟨by unfold maxLen at hm; omega, ?_⟩, ?_⟩
  · intro i hi
    obtain ⟨b, o, c, rfl, hc, hl, _, ca, cb, rfl, hA, hB, _⟩ := hat i hi
    generalize us[i]'hi = pr at *
    obtain ⟨A, B⟩ := pr
    have g : ∀ j, j < 10 → w.cell? ⟨b, o + i * 10 + j, none⟩ = (ca ++ cb)[j]? := fun j hj => by rw [Nat.add_assoc]; exact hc j hj
    have hA' := hA
    have hB' := hB
    cases hA with
    | mk k n s e l q cap1 b1 o1 C1 hp1 hw1 hc1 hr1 =>
    cases hB with
    | mk k' n' s' e' l' q' cap' b2 o2 C2 hp2 hw2 hc2 hr2 =>
    have g0 := g 0 (by omega)
    exact ⟨b, o, rfl, World.block_lt_of_cell? _ _ g0, PairCells.mk k n s e l q cap1 k' n' s' e' l' q' cap' g0 (g 1 (by omega)) (g 2 (by omega)) (g 3 (by omega)) (g 4 (by omega)) (g 5 (by omega)) (g 6 (by omega)) (g 7 (by omega)) (g 8 (by omega)) (g 9 (by omega)) hA' hB'⟩
  · have h1 := allCount_le us es 0 hes (fun i hi hi' => by obtain ⟨_, _, _, _, _, _, _, _, _, _, _, _, h⟩ := hat i hi; exact h)
    unfold allCount
    omega
/-- A row of binds, opened. -/
theorem open_binds (fuel : Nat) (cs : List Value) (x : DataW H × List MemPlace) (h : DataW.trod enc Try.prog w base sp hd fuel 25 cs = some x) : ∃ p cap Bs, cs = [.slice p (Bs : List (Int × Ty)).length cap] ∧ BindsRow w p Bs := by
  obtain ⟨f0, f1, f2, f3, f4, S⟩ := tyShape
  have hr := open_rowin Try.underlying25 cells35 (by omega) (fun cs (d : DataW H) (pr : Int × Ty) => ∃ ca, cs = .int .i64 pr.1 :: ca ∧ TyIn w ca pr.2) fuel (fun m hm cs x h => by
    obtain ⟨y0, y1, n, rfl, hl, h0, h1⟩ := trod_struct2 Try.underlying35 h
    rw [cells35] at hl
    rw [cells33] at h1
    rw [show Try.prog.cellsOf 3 = 1 by kernel_rfl] at h0
    obtain ⟨B, hB, _⟩ := open_tyB S _ _ _ h1
    obtain ⟨k, hk, _, _⟩ := DataW.trod_int Try.underlying3 h0
    refine ⟨(k, B), _, ?_, hB⟩
    match cs, hl with
    | c :: cs', hl =>
      have hk' : c = .int .i64 k := by simpa using hk
      subst hk'
      simp at hl ⊢
      rw [List.take_of_length_le (by omega)]) cs x h
  cases hr with
  | mk p cap us es hcs hm hcap hes hbulk hat =>
  refine ⟨p, cap, us, hcs, ⟨by unfold maxLen at hm; omega, ?_⟩⟩
  intro i hi
  obtain ⟨b, o, c, rfl, hc, hl, _, ca, rfl, hA⟩ := hat i hi
  generalize us[i]'hi = pr at *
  obtain ⟨x1, A⟩ := pr
  have g : ∀ j, j < 6 → w.cell? ⟨b, o + i * 6 + j, none⟩ = (Value.int .i64 x1 :: ca)[j]? := fun j hj => by rw [Nat.add_assoc]; exact hc j hj
  have hA' := hA
  cases hA with
  | mk k n s e l q cap1 b1 o1 C1 hp1 hw1 hc1 hr1 =>
  have g0 := g 0 (by omega)
  exact ⟨b, o, rfl, World.block_lt_of_cell? _ _ g0, BindCells.mk x1 k n s e l q cap1 g0 (g 1 (by omega)) (g 2 (by omega)) (g 3 (by omega)) (g 4 (by omega)) (g 5 (by omega)) hA'⟩
end
end Go.Proofs.Ytbgpjaniohpfaaa
