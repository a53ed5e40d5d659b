/-
  The arguments of the laws of the layer code opened: a code, and what its bulk bounds.
-/
import Derived.Test.YtlekoldicnfeeaaDoorRows
import Derived.Test.YtlekoldicnfeeaaDoorC22
import Derived.ChangeSame
import Derived.ChangeArms
namespace Go.Proofs.YtlekoldicnfeeaaDoor
open Go.RowKit Go.Deep Go.ChangeShapes
set_option maxRecDepth 100000
theorem bulk_mem {H : Type} {d : DataW H} : ∀ {l : List (DataW H)}, d ∈ l → Rows.uptoBulk d ≤ Rows.uptoBulkAll l
  | a :: l, h => by
    rw [Rows.uptoBulkAll]
    rcases List.mem_cons.1 h with rfl | h
    · omega
    · have := bulk_mem h
      omega
theorem bulk_pos {H : Type} (d : DataW H) : 1 ≤ Rows.uptoBulk d := by
  cases d with
  | lit l => cases l <;> simp [Rows.uptoBulk]
  | _ => simp [Rows.uptoBulk]
theorem flat_le {H α : Type} (g : α → List UInt8) (k : Nat) : ∀ (us : List α) (es : List (DataW H)), us.length = es.length → (∀ i (h : i < us.length) (h' : i < es.length), (g (us[i]'h)).length ≤ k * Rows.uptoBulk (es[i]'h')) → (us.flatMap g).length ≤ k * Rows.uptoBulkAll es
  | [], _, _, _ => by simp
  | t :: ts, [], h, _ => by simp at h
  | t :: ts, e :: es, h, hk => by
    rw [List.flatMap_cons, Rows.uptoBulkAll, List.length_append, Nat.mul_add]
    have h0 := hk 0 (by simp) (by simp)
    have h1 := flat_le g k ts es (by simpa using h) (fun i hi hi' => by have := hk (i + 1) (by simp; omega) (by simp; omega); simpa using this)
    simp at h0
    omega
section
variable {H : Type} {enc : TypeId × Value → H} {P : Program} {w : World} {base : Nat} {sp : Nat → Bool} {hd : Bool}
theorem trod_struct3 {t : TypeId} {f0 f1 f2 : Field} {fuel : Nat} {cs : List Value} {x : DataW H × List MemPlace} (ht : P.underlying t = some (.struct #[f0, f1, f2])) (h : DataW.trod enc P w base sp hd fuel t cs = some x) :
    ∃ y0 y1 y2 n, x = (.agg [y0.1, y1.1, y2.1], y0.2 ++ (y1.2 ++ y2.2)) ∧ fuel = n + 1 ∧ cs.length = P.cellsOf t ∧ DataW.trod enc P w base sp hd n f0.type ((cs.drop f0.offset).take (P.cellsOf f0.type)) = some y0 ∧ DataW.trod enc P w base sp hd n f1.type ((cs.drop f1.offset).take (P.cellsOf f1.type)) = some y1 ∧ DataW.trod enc P w base sp hd n f2.type ((cs.drop f2.offset).take (P.cellsOf f2.type)) = some y2 := by
  obtain ⟨xs, n, h1, h2, h3, h4, h5⟩ := DataW.trod_struct ht h
  match xs, h4 with
  | [y0, y1, y2], _ =>
    refine ⟨y0, y1, y2, n, by rw [h2]; simp, h1, h3, ?_, ?_, ?_⟩
    · exact h5 0 f0 rfl
    · exact h5 1 f1 rfl
    · exact h5 2 f2 rfl
/-- A row opened: its elements' cells, each with what its reading says. -/
inductive RowIn {α : Type} (w : World) (n : Nat) (Q : List Value → DataW H → α → Prop) (cs : List Value) (d : DataW H) : Prop
  | mk (p : Option Addr) (cap : Nat) (us : List α) (es : List (DataW H)) (hcs : cs = [.slice p us.length cap]) (hm : us.length ≤ maxLen) (hcap : us.length ≤ cap) (hes : us.length = es.length) (hbulk : Rows.uptoBulkAll es + 1 ≤ Rows.uptoBulk d)
      (hat : ∀ i (hi : i < us.length), ∃ b o c, p = some ⟨b, o, none⟩ ∧ (∀ j, j < n → w.cell? ⟨b, o + (i * n + j), none⟩ = c[j]?) ∧ c.length = n ∧ ∃ (hi' : i < es.length), Q c (es[i]'hi') (us[i]'hi)) : RowIn w n Q cs d
theorem open_rowin {α : Type} [Inhabited α] {te ts : TypeId} {n : Nat} (hs : P.underlying ts = some (.slice te)) (hc : P.cellsOf te = n) (hn : 0 < n) (Q : List Value → DataW H → α → Prop) (fuel : Nat) (key : ∀ m, m < fuel → ∀ (cs : List Value) (x : DataW H × List MemPlace), DataW.trod enc P w base sp hd m te cs = some x → ∃ a, Q cs x.1 a)
    (cs : List Value) (x : DataW H × List MemPlace) (h : DataW.trod enc P w base sp hd fuel ts cs = some x) : RowIn w n Q cs x.1 := by
  rcases DataW.trod_slice hs h with ⟨rfl, rfl⟩ | ⟨a, len, cap, elems, rest, n', rfl, rfl, rfl, hb, hl, hmx, hel, hat, _, _⟩
  · exact RowIn.mk none 0 [] [] rfl (Nat.zero_le _) (Nat.zero_le _) rfl (by simp [Rows.uptoBulk, Rows.uptoBulkAll]) (fun i hi => absurd hi (Nat.not_lt_zero _))
  · rw [hc] at hat
    have k1 : ∀ i, i < len → ∃ q : List Value × α, (∀ j, j < n → w.cell? ((a.add (i * n)).add j) = q.1[j]?) ∧ q.1.length = n ∧ ∀ (hi' : i < elems.length), Q q.1 (elems[i]'hi').1 q.2 := by
      intro i hi
      have h1 := hat i hi
      rw [List.getElem?_eq_getElem (by omega)] at h1
      obtain ⟨cs', h2, h3⟩ := Option.bind_eq_some_iff.1 h1
      obtain ⟨T, hT⟩ := key n' (by omega) cs' _ h3
      obtain ⟨_, hl5, hcell⟩ := World.cells?_some h2
      exact ⟨(cs', T), hcell, hl5, fun _ => hT⟩
    obtain ⟨F, hF⟩ := choose_lt (α := List Value × α) k1
    have has : ((List.range len).map fun i => (F i).2).length = len := by simp
    refine RowIn.mk (some a) cap ((List.range len).map fun i => (F i).2) (elems.map (·.1)) (by rw [has]) (by rw [has]; omega) (by rw [has]; exact hl) (by rw [has]; simp [hel]) (by simp only [Rows.uptoBulk]; omega) ?_
    intro i hi
    rw [has] at hi
    obtain ⟨b, o, spot⟩ := a
    have hc0 := (hF 0 (by omega)).1 0 hn
    rw [List.getElem?_eq_getElem (by rw [(hF 0 (by omega)).2.1]; omega)] at hc0
    have hspot : spot = none := by simpa [Addr.add] using World.cell?_spot hc0
    subst hspot
    refine ⟨b, o, (F i).1, rfl, fun j hj => ?_, (hF i hi).2.1, by simp; omega, ?_⟩
    · have := (hF i hi).1 j hj
      rw [add_add, Go.WideShapes.add_plain] at this
      exact this
    · simp only [List.getElem_map, List.getElem_range]
      exact (hF i hi).2.2 (by omega)
end
section
variable {H : Type} {enc : TypeId × Value → H} {w : World} {base : Nat} {sp : Nat → Bool} {hd : Bool}
theorem cells42 : Tryd.prog.cellsOf 47 = 3 := by kernel_rfl
theorem cells45 : Tryd.prog.cellsOf 50 = 3 := by kernel_rfl
theorem cells9 : Tryd.prog.cellsOf 9 = 1 := by kernel_rfl
theorem cells3 : Tryd.prog.cellsOf 3 = 1 := by kernel_rfl
theorem cells43 : Tryd.prog.cellsOf 48 = 1 := by kernel_rfl
theorem cells22 : Tryd.prog.cellsOf 22 = 1 := by kernel_rfl
theorem cells23 : Tryd.prog.cellsOf 23 = 1 := by kernel_rfl
theorem cells25 : Tryd.prog.cellsOf 25 = 2 := by kernel_rfl
theorem one_int {fuel : Nat} {cs : List Value} {x : DataW H × List MemPlace} (h : DataW.trod enc Tryd.prog w base sp hd fuel 3 cs = some x) : ∃ k, cs = [.int .i64 k] := by
  obtain ⟨k, hk, _, _⟩ := DataW.trod_int Tryd.underlying3 h
  exact ⟨k, hk⟩
/-- Texts, opened. -/
theorem open_texts (fuel : Nat) (cs : List Value) (x : DataW H × List MemPlace) (h : DataW.trod enc Tryd.prog w base sp hd fuel 22 cs = some x) : ∃ p cap ts, cs = [.slice p (ts : List ByteArray).length cap] ∧ TextsIn w p ts ∧ (ts.flatMap textB).length ≤ 9 * Rows.uptoBulk x.1 := by
  have hr := open_rowin Tryd.underlying22 cells9 (by omega) (fun cs d (t : ByteArray) => cs = [.string t] ∧ (textB t).length ≤ 9 * Rows.uptoBulk d) fuel (fun m hm cs x h => by
    obtain ⟨s, hs, hx, _⟩ := DataW.trod_string Tryd.underlying9 h
    refine ⟨s, hs, ?_⟩
    subst hx
    have hl : s.data.toList.length = s.size := Array.length_toList
    simp only [textB, List.length_append, big_len, hl, Rows.uptoBulk]
    omega) cs x h
  cases hr with
  | mk p cap us es hcs hm hcap hes hbulk hat =>
  refine ⟨p, cap, us, hcs, ⟨by unfold maxLen at hm; omega, ?_⟩, ?_⟩
  · intro i hi
    obtain ⟨b, o, c, rfl, hc, hl, _, rfl, _⟩ := hat i hi
    have g0 := hc 0 (by omega)
    simp only [Nat.mul_one, Nat.add_zero, List.getElem?_cons_zero] at g0
    exact ⟨b, o, rfl, World.block_lt_of_cell? _ _ g0, g0⟩
  · have h1 := flat_le textB 9 us es hes (fun i hi hi' => by obtain ⟨_, _, _, _, _, _, _, _, h⟩ := hat i hi; exact h)
    omega
/-- Instructions, opened. -/
theorem open_ins (fuel : Nat) (cs : List Value) (x : DataW H × List MemPlace) (h : DataW.trod enc Tryd.prog w base sp hd fuel 48 cs = some x) : ∃ p cap l, cs = [.slice p (l : List In).length cap] ∧ InsIn w p l ∧ (l.flatMap In.bytes).length + 9 ≤ 9 * Rows.uptoBulk x.1 := by
  have hr := open_rowin Tryd.underlying48 cells42 (by omega) (fun cs (d : DataW H) (t : In) => cs = [.int .i64 t.op, .int .i64 t.a, .int .i64 t.b]) fuel (fun m hm cs x h => by
    obtain ⟨y0, y1, y2, n, rfl, rfl, hlen, e0, e1, e2⟩ := trod_struct3 Tryd.underlying47 h
    rw [cells42] at hlen
    simp only [cells3] at e0 e1 e2
    match cs, hlen with
    | [c0, c1, c2], _ =>
      obtain ⟨k0, h0⟩ := one_int e0
      obtain ⟨k1, h1⟩ := one_int e1
      obtain ⟨k2, h2⟩ := one_int e2
      refine ⟨⟨k0, k1, k2⟩, ?_⟩
      simp at h0 h1 h2
      rw [h0, h1, h2]) cs x h
  cases hr with
  | mk p cap us es hcs hm hcap hes hbulk hat =>
  refine ⟨p, cap, us, hcs, ⟨by unfold maxLen at hm; omega, ?_⟩, ?_⟩
  · intro i hi
    obtain ⟨b, o, c, rfl, hc, hl, _, rfl⟩ := hat i hi
    have g : ∀ j, j < 3 → w.cell? ⟨b, o + i * 3 + j, none⟩ = ([Value.int .i64 (us[i]'hi).op, .int .i64 (us[i]'hi).a, .int .i64 (us[i]'hi).b] : List Value)[j]? := fun j hj => by rw [Nat.add_assoc]; exact hc j hj
    have g0 := g 0 (by omega)
    exact ⟨b, o, rfl, World.block_lt_of_cell? _ _ g0, g0, g 1 (by omega), g 2 (by omega)⟩
  · have h1 := flat_le In.bytes 9 us es hes (fun i hi hi' => by have := (us[i]'hi).bytes_len; have := bulk_pos (es[i]'hi'); omega)
    omega
/-- Functions, opened. -/
theorem open_funs (fuel : Nat) (cs : List Value) (x : DataW H × List MemPlace) (h : DataW.trod enc Tryd.prog w base sp hd fuel 23 cs = some x) : ∃ p cap fs, cs = [.slice p (fs : List Fn).length cap] ∧ FunsIn w p fs ∧ (fs.flatMap Fn.bytes).length ≤ 9 * Rows.uptoBulk x.1 := by
  have hr := open_rowin Tryd.underlying23 cells45 (by omega) (fun cs (d : DataW H) (t : Fn) => ∃ q qc, cs = [.int .i64 t.free, .int .i64 t.slots, .slice q t.ins.length qc] ∧ InsIn w q t.ins ∧ t.bytes.length ≤ 9 * Rows.uptoBulk d) fuel (fun m hm cs x h => by
    obtain ⟨y0, y1, y2, n, rfl, rfl, hlen, e0, e1, e2⟩ := trod_struct3 Tryd.underlying50 h
    rw [cells45] at hlen
    simp only [cells3, cells43] at e0 e1 e2
    match cs, hlen with
    | [c0, c1, c2], _ =>
      obtain ⟨k0, h0⟩ := one_int e0
      obtain ⟨k1, h1⟩ := one_int e1
      obtain ⟨q, qc, l, h2, hI, hb⟩ := open_ins _ _ _ e2
      refine ⟨⟨k0, k1, l⟩, q, qc, ?_, hI, ?_⟩
      · simp at h0 h1 h2
        rw [h0, h1, h2]
      · simp only [Fn.bytes, List.length_append, big_len, Rows.uptoBulk, Rows.uptoBulkAll]
        omega) cs x h
  cases hr with
  | mk p cap us es hcs hm hcap hes hbulk hat =>
  refine ⟨p, cap, us, hcs, ⟨by unfold maxLen at hm; omega, ?_⟩, ?_⟩
  · intro i hi
    obtain ⟨b, o, c, rfl, hc, hl, _, q, qc, rfl, hI, _⟩ := hat i hi
    have g : ∀ j, j < 3 → w.cell? ⟨b, o + i * 3 + j, none⟩ = ([Value.int .i64 (us[i]'hi).free, .int .i64 (us[i]'hi).slots, .slice q (us[i]'hi).ins.length qc] : List Value)[j]? := fun j hj => by rw [Nat.add_assoc]; exact hc j hj
    have g0 := g 0 (by omega)
    exact ⟨b, o, q, qc, rfl, World.block_lt_of_cell? _ _ g0, ⟨g0, g 1 (by omega), g 2 (by omega)⟩, hI⟩
  · have h1 := flat_le Fn.bytes 9 us es hes (fun i hi hi' => by obtain ⟨_, _, _, _, _, _, _, _, _, _, _, h⟩ := hat i hi; exact h)
    omega
/-- A code, opened. -/
theorem open_code (fuel : Nat) (cs : List Value) (x : DataW H × List MemPlace) (h : DataW.trod enc Tryd.prog w base sp hd fuel 25 cs = some x) : ∃ (c : Cd) (p : Option Addr) (cap : Nat) (p' : Option Addr) (cap' : Nat), cs = [.slice p c.texts.length cap, .slice p' c.funs.length cap'] ∧ TextsIn w p c.texts ∧ FunsIn w p' c.funs ∧ c.bytes.length ≤ 18 * Rows.uptoBulk x.1 := by
  obtain ⟨y0, y1, n, rfl, hl, h0, h1⟩ := trod_struct2 Tryd.underlying25 h
  rw [cells25] at hl
  simp only [cells22, cells23] at h0 h1
  match cs, hl with
  | [c0, c1], _ =>
    obtain ⟨p, cap, ts, e0, hT, bT⟩ := open_texts _ _ _ h0
    obtain ⟨p', cap', fs, e1, hF, bF⟩ := open_funs _ _ _ h1
    refine ⟨⟨ts, fs⟩, p, cap, p', cap', ?_, hT, hF, ?_⟩
    · simp at e0 e1
      rw [e0, e1]
    · simp only [Cd.bytes, List.length_append, big_len, Rows.uptoBulk, Rows.uptoBulkAll]
      have : ([77, 76, 49] : List UInt8).length = 3 := rfl
      omega
end
end Go.Proofs.YtlekoldicnfeeaaDoor
