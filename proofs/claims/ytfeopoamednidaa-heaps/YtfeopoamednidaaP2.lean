/-
  The program's heap: rows of words of one's own: a word is set, words are put behind, words are copied.
-/
import Derived.Test.YtfeopoamednidaaP1
import Derived.Lib.AppendZerosOnto
import Derived.Laws.CopyRow
namespace Go.Proofs.Ytfeopoamednidaa
open Go.RowKit Go.Deep Go.IntWalk
def Wd.vals (x : Wd) : List Value := [.int .i64 x.n, .int .i32 x.moved, .int .u16 x.tag, .int .u8 x.kind, .int .u8 x.part]
def wdV (l : List Wd) : List Value := l.flatMap Wd.vals
theorem wdV_app (a b : List Wd) : wdV (a ++ b) = wdV a ++ wdV b := by simp [wdV]
theorem wdV_cons (x : Wd) (r : List Wd) : wdV (x :: r) = x.vals ++ wdV r := rfl
theorem vals_len (x : Wd) : x.vals.length = 5 := rfl
theorem wdV_len (l : List Wd) : (wdV l).length = l.length * 5 := by
  induction l with
  | nil => rfl
  | cons x r ih => rw [wdV_cons, List.length_append, ih, vals_len, List.length_cons]; omega
theorem wdV_get : ∀ (l : List Wd) (i : Nat) (hi : i < l.length) (j : Nat), j < 5 → (wdV l)[i * 5 + j]? = (l[i]'hi).vals[j]?
  | x :: r, 0, _, j, hj => by
    rw [wdV_cons, Nat.zero_mul, Nat.zero_add, List.getElem?_append_left (by rw [vals_len]; exact hj)]
    rfl
  | x :: r, i + 1, hi, j, hj => by
    rw [wdV_cons, List.getElem?_append_right (by rw [vals_len]; omega), vals_len, show (i + 1) * 5 + j - 5 = i * 5 + j by omega, wdV_get r i (by simpa using hi) j hj]
    rfl
theorem wdV_one (l : List Wd) : ∀ u ∈ wdV l, u.oneCell' = true := by
  intro u hu
  obtain ⟨x, _, hx⟩ := List.mem_flatMap.1 hu
  simp only [Wd.vals, List.mem_cons, List.not_mem_nil, or_false] at hx
  rcases hx with rfl | rfl | rfl | rfl | rfl <;> rfl
theorem wdV_take (l : List Wd) (k : Nat) (hk : k ≤ l.length) : (wdV l).take (k * 5) = wdV (l.take k) := by
  have e : wdV l = wdV (l.take k) ++ wdV (l.drop k) := by rw [← wdV_app, List.take_append_drop]
  rw [e, List.take_append_of_le_length (by rw [wdV_len, List.length_take]; omega), List.take_of_length_le (by rw [wdV_len, List.length_take]; omega)]
theorem wdV_drop (l : List Wd) (k : Nat) (hk : k ≤ l.length) : (wdV l).drop (k * 5) = wdV (l.drop k) := by
  have e : wdV l = wdV (l.take k) ++ wdV (l.drop k) := by rw [← wdV_app, List.take_append_drop]
  rw [e, List.drop_append_of_le_length (by rw [wdV_len, List.length_take]; omega), List.drop_of_length_le (by rw [wdV_len, List.length_take]; omega), List.nil_append]
/-- A word is set, cell by cell. -/
theorem wdV_set (l : List Wd) (k : Nat) (hk : k < l.length) (x : Wd) :
    (((((wdV l).set (k * 5) (.int .i64 x.n)).set (k * 5 + 1) (.int .i32 x.moved)).set (k * 5 + 2) (.int .u16 x.tag)).set (k * 5 + 3) (.int .u8 x.kind)).set (k * 5 + 4) (.int .u8 x.part) = wdV (l.set k x) := by
  have e : wdV l = wdV (l.take k) ++ ((l[k]'hk).vals ++ wdV (l.drop (k + 1))) := by
    rw [← wdV_cons, ← wdV_app, ← List.drop_eq_getElem_cons hk, List.take_append_drop]
  have e2 : wdV (l.set k x) = wdV (l.take k) ++ (x.vals ++ wdV (l.drop (k + 1))) := by
    rw [← wdV_cons, ← wdV_app, List.set_eq_take_append_cons_drop, if_pos hk]
  have hlen : (wdV (l.take k)).length = k * 5 := by rw [wdV_len, List.length_take]; omega
  rw [e, e2]
  generalize wdV (l.take k) = A at *
  generalize wdV (l.drop (k + 1)) = B
  have hs : ∀ (j : Nat) (C : List Value) (u : Value), (A ++ C).set (k * 5 + j) u = A ++ C.set j u := fun j C u => by
    rw [List.set_append_right _ _ (by omega), hlen, Nat.add_sub_cancel_left]
  have h0 := hs 0
  simp only [Nat.add_zero] at h0
  rw [h0, hs, hs, hs, hs]
  rfl
theorem wdV_set0 (l : List Wd) (k : Nat) (hk : k < l.length) (m : Int) : (wdV l).set (k * 5 + 1) (.int .i32 m) = wdV (l.set k { (l[k]'hk) with moved := m }) := by
  have e : wdV l = wdV (l.take k) ++ ((l[k]'hk).vals ++ wdV (l.drop (k + 1))) := by
    rw [← wdV_cons, ← wdV_app, ← List.drop_eq_getElem_cons hk, List.take_append_drop]
  have e2 : ∀ x, wdV (l.set k x) = wdV (l.take k) ++ (x.vals ++ wdV (l.drop (k + 1))) := fun x => by
    rw [← wdV_cons, ← wdV_app, List.set_eq_take_append_cons_drop, if_pos hk]
  have hlen : (wdV (l.take k)).length = k * 5 := by rw [wdV_len, List.length_take]; omega
  rw [e2, e, List.set_append_right _ _ (by omega), hlen, Nat.add_sub_cancel_left]
  rfl
theorem wdV_set4 (l : List Wd) (k : Nat) (hk : k < l.length) (m : Int) : (wdV l).set (k * 5 + 4) (.int .u8 m) = wdV (l.set k { (l[k]'hk) with part := m }) := by
  have e : wdV l = wdV (l.take k) ++ ((l[k]'hk).vals ++ wdV (l.drop (k + 1))) := by
    rw [← wdV_cons, ← wdV_app, ← List.drop_eq_getElem_cons hk, List.take_append_drop]
  have e2 : ∀ x, wdV (l.set k x) = wdV (l.take k) ++ (x.vals ++ wdV (l.drop (k + 1))) := fun x => by
    rw [← wdV_cons, ← wdV_app, List.set_eq_take_append_cons_drop, if_pos hk]
  have hlen : (wdV (l.take k)).length = k * 5 := by rw [wdV_len, List.length_take]; omega
  rw [e2, e, List.set_append_right _ _ (by omega), hlen, Nat.add_sub_cancel_left]
  rfl
/-- A cell of a row of one's own is set. -/
theorem ownsRow_set {w : World} {base : Nat} {e : TypeId} {size : Nat} {v : Value} {n : Nat} {xs : List Value} (h : w.ownsRow base e size v n xs) {g : Nat} (hg : v.ownBlock = some g) (off : Nat) (u : Value) : (w.setCell ⟨g, off, none⟩ u).ownsRow base e size v n (xs.set off u) := by
  refine ⟨by rw [List.length_set]; exact h.1, ?_⟩
  rcases h.2 with ⟨rfl, h0⟩ | ⟨g', cap, cur, rfl, hb, hgg, h3, h4, h5, h6⟩
  · simp [Value.ownBlock] at hg
  · simp [Value.ownBlock] at hg
    subst hg
    refine .inr ⟨g', cap, cur.setIfInBounds off u, rfl, hb, ?_, h3, h4, by simpa using h5, ?_⟩
    · simp [World.setCell, Array.getElem?_modify, hgg]
    · rw [← h6, Array.toList_setIfInBounds, List.take_set]
theorem ownsRow_frozen {w : World} {base : Nat} {e : TypeId} {size : Nat} {v : Value} {n : Nat} {xs : List Value} (h : w.ownsRow base e size v n xs) {g : Nat} (hg : v.ownBlock = some g) (off : Nat) : w.frozen? ⟨g, off, none⟩ = false := by
  rcases h.2 with ⟨rfl, h0⟩ | ⟨g', cap, cur, rfl, hb, hgg, h3⟩
  · simp [Value.ownBlock] at hg
  · simp [Value.ownBlock] at hg
    subst hg
    simp [World.frozen?, hgg]
/-- A row of words of one's own. -/
def OwnW (w : World) (v : Value) (l : List Wd) : Prop := w.ownsRow 0 79 5 v l.length (wdV l)
def pblk : Option Addr → List Nat
  | some a => [a.block]
  | none => []
theorem OwnW.at {w : World} {v : Value} {l : List Wd} (h : OwnW w v l) (hm : l.length ≤ 1000000) : ∃ q cap, v = .slice q l.length cap ∧ l.length ≤ cap ∧ RowW w q l ∧ (q = none → l = []) ∧ (∀ a, q = some a → a = ⟨a.block, 0, none⟩ ∧ v.ownBlock = some a.block) := by
  rcases h.2 with ⟨rfl, h0⟩ | ⟨g, cap, cur, rfl, h1, h2, h3, h4, h5, h6⟩
  · have : l = [] := List.eq_nil_of_length_eq_zero h0
    subst this
    exact ⟨none, 0, rfl, Nat.le_refl _, ⟨by simp, fun i hi => by cases hi⟩, fun _ => rfl, fun a e => by cases e⟩
  · refine ⟨some ⟨g, 0, none⟩, cap, rfl, h3, ⟨hm, fun i hi => ⟨g, rfl, ?_⟩⟩, (fun e => by cases e), (fun a e => by cases e; exact ⟨rfl, rfl⟩)⟩
    have hc : ∀ j u, j < 5 → (l[i]'hi).vals[j]? = some u → w.cell? ⟨g, 0 + i * 5 + j, none⟩ = some u := fun j u hj hu => by
      have := World.ownsRow.cells (g := g) h rfl (i * 5 + j) u (by rw [wdV_get l i hi j hj]; exact hu)
      rw [add_at] at this
      rw [Nat.add_assoc]
      exact this
    exact ⟨hc 0 _ (by omega) rfl, hc 1 _ (by omega) rfl, hc 2 _ (by omega) rfl, hc 3 _ (by omega) rfl, hc 4 _ (by omega) rfl⟩
theorem OwnW.kp {X : List Nat} {w w' : World} {v : Value} {l : List Wd} (h : OwnW w v l) (hk : Kp X w w') (hX : ∀ k, v.ownBlock = some k → k ∉ X) : OwnW w' v l := by
  refine ⟨h.1, ?_⟩
  rcases h.2 with hn | ⟨g, cap, cur, rfl, hb, hgg, rest⟩
  · exact .inl hn
  · exact .inr ⟨g, cap, cur, rfl, hb, (hk.block g (Array.getElem?_eq_some_iff.1 hgg).1 (hX g rfl)).trans hgg, rest⟩
/-- It lies in no block of other cells. -/
theorem OwnW.ne {w : World} {v : Value} {l : List Wd} (h : OwnW w v l) {c : Nat} {a : Array Value} {t : TypeId} {f : Nat × Nat} (hc : w.heap[c]? = some (.cells a t f)) (ht : t ≠ 79) : v.ownBlock ≠ some c := by
  intro e
  rcases h.2 with ⟨rfl, h0⟩ | ⟨g, cap, cur, rfl, h1, h2, _⟩
  · cases e
  · simp [Value.ownBlock] at e
    subst e
    rw [hc] at h2
    simp only [Option.some.injEq, Obj.cells.injEq] at h2
    exact ht h2.2.1
theorem OwnW.lt {w : World} {v : Value} {l : List Wd} (h : OwnW w v l) {k : Nat} (hk : v.ownBlock = some k) : k < w.heap.size := (World.ownsRow.lt h k hk).2
def zw : Wd := ⟨0, 0, 0, 0, 0⟩
theorem infos79 : (Try.prog.info? 79).map (fun i => (i.zero, i.size, i.bytes)) = some (some (.agg #[.int .i64 0, .int .i32 0, .int .u16 0, .int .u8 0, .int .u8 0]), 5, 16) := by kernel_rfl
theorem slice41 : Try.prog.underlying 41 = some (.slice 79) := by kernel_rfl
theorem int3 : Try.prog.underlying 3 = some (.int .i64) := by kernel_rfl
theorem zeroW (k : Nat) : (Builtin.zeroCells #[.int .i64 0, .int .i32 0, .int .u16 0, .int .u8 0, .int .u8 0] k).toList = wdV (List.replicate k zw) := by
  apply List.ext_getElem?
  intro i
  by_cases hi : i < k * 5
  · have h1 : i / 5 < (List.replicate k zw).length := by simp; omega
    have h2 := wdV_get (List.replicate k zw) (i / 5) h1 (i % 5) (by omega)
    rw [show i / 5 * 5 + i % 5 = i by omega] at h2
    rw [h2, List.getElem_replicate]
    have h3 : i % 5 = 0 ∨ i % 5 = 1 ∨ i % 5 = 2 ∨ i % 5 = 3 ∨ i % 5 = 4 := by omega
    rcases h3 with h | h | h | h | h <;> simp [Builtin.zeroCells, hi, h, zw, Wd.vals]
  · rw [List.getElem?_eq_none, List.getElem?_eq_none]
    · rw [wdV_len]; simp; omega
    · simp [Builtin.zeroCells]; omega
/-- Zero words are put behind. -/
theorem run_append_zeros {w : World} {v : Value} {L : List Wd} (ho : OwnW w v L) (k : Nat) (hk : 0 < k) (hl : L.length + k ≤ 2000000) (ty : TypeId) :
    ∃ g cap w', (Builtin.append_ #[41, 3] ty #[v, .int .i64 k]).run Try.prog w = .ok (.slice (some ⟨g, 0, none⟩) (L.length + k) cap) w' ∧ OwnW w' (.slice (some ⟨g, 0, none⟩) (L.length + k) cap) (L ++ List.replicate k zw) ∧ w.grownBy w' v.ownBlock ∧ (v.ownBlock = some g ∨ g = w.heap.size) ∧ L.length + k ≤ cap := by
  obtain ⟨i0, hi0, hz0, hz1, hz2⟩ := info_parts infos79
  have hlen : (L ++ List.replicate k zw).length = L.length + k := by simp
  have hxs : (wdV L).toArray.size = L.length * 5 := by simp [wdV_len]
  have hzl : (Builtin.zeroCells #[.int .i64 0, .int .i32 0, .int .u16 0, .int .u8 0, .int .u8 0] k).size = k * 5 := by simp [Builtin.zeroCells]
  have hcells : (Value.agg #[.int .i64 0, .int .i32 0, .int .u16 0, .int .u8 0, .int .u8 0]).cells = #[.int .i64 0, .int .i32 0, .int .u16 0, .int .u8 0, .int .u8 0] := by kernel_rfl
  have grown : ∀ old, old < L.length + k → ∀ row : Option Nat, 
      OwnW (w.drew.alloc (.cells ((wdV L).toArray ++ Builtin.zeroCells #[.int .i64 0, .int .i32 0, .int .u16 0, .int .u8 0, .int .u8 0] k ++ Builtin.zeroCells #[.int .i64 0, .int .i32 0, .int .u16 0, .int .u8 0, .int .u8 0] (grownCap w (L.length + k) old 79 - (L.length + k))) 79)) (.slice (some ⟨w.heap.size, 0, none⟩) (L.length + k) (grownCap w (L.length + k) old 79)) (L ++ List.replicate k zw) ∧
      w.grownBy (w.drew.alloc (.cells ((wdV L).toArray ++ Builtin.zeroCells #[.int .i64 0, .int .i32 0, .int .u16 0, .int .u8 0, .int .u8 0] k ++ Builtin.zeroCells #[.int .i64 0, .int .i32 0, .int .u16 0, .int .u8 0, .int .u8 0] (grownCap w (L.length + k) old 79 - (L.length + k))) 79)) row := by
    intro old ho' row
    have hge := grownCap_ge w (L.length + k) old 79
    have hcm : grownCap w (L.length + k) old 79 ≤ maxLen := grownCap_le_maxLen w (L.length + k) old 79 (by unfold maxLen; omega)
    refine ⟨⟨by rw [wdV_len], .inr ⟨w.heap.size, _, _, by rw [hlen], Nat.zero_le _, heap_alloc_new w.drew _, by rw [hlen]; exact hge, hcm, ?_, ?_⟩⟩, ⟨rfl, rfl, rfl, by simp, fun j hj _ => Below.heap_alloc w.drew _ j hj⟩⟩
    · simp only [Array.size_append, hxs, hzl, size_zeroCells]
      simp only [List.size_toArray, List.length_cons, List.length_nil]
      omega
    · simp only [Array.toList_append, zeroW, List.append_assoc]
      rw [← List.append_assoc, wdV_app, hlen]
      have e : (L.length + k) * 5 = (wdV L ++ wdV (List.replicate k zw)).length := by simp [wdV_len]; omega
      rw [e]
      exact List.take_left
  rcases ho.2 with ⟨rfl, h0⟩ | ⟨g, cap, cur, rfl, hbg, hg, hnc, hcm, hcs, htake⟩
  · have hL : L = [] := List.eq_nil_of_length_eq_zero h0
    subst hL
    have hr := Lib.run_append_nil_zeros (P := Try.prog) w 41 3 ty 79 i0 _ .i64 .i64 slice41 int3 hi0 hz0 k hk (by rw [hz1]; decide) (by simp at hl; omega) (by rw [hz2]; simp at hl; omega)
    obtain ⟨g1, g2⟩ := grown 0 (by simpa using hk) (Value.ownBlock (.slice none 0 0))
    rw [hcells] at hr
    simp only [List.length_nil, Nat.zero_add, List.nil_append, wdV, List.flatMap_nil, Array.empty_append] at hr g1 g2 ⊢
    exact ⟨_, _, _, hr, g1, g2, .inr rfl, grownCap_ge w k 0 79⟩
  · by_cases hroom : L.length + k ≤ cap
    · have hst := run_storeCells_at Try.prog g (L.length * 5) 79 (wdV (List.replicate k zw)) 0 cur w hg (by rw [wdV_len, hcs]; simp; omega) (wdV_one _)
      simp only [Nat.add_zero] at hst
      have hr : (Builtin.append_ #[41, 3] ty #[.slice (some ⟨g, 0, none⟩) L.length cap, .int .i64 k]).run Try.prog w = .ok (.slice (some ⟨g, 0, none⟩) (L.length + k) cap) (w.setRow g (cur.toList.take (L.length * 5) ++ wdV (List.replicate k zw) ++ cur.toList.drop (L.length * 5 + (wdV (List.replicate k zw)).length)).toArray) := by
        have hw : IntKind.i64.wrap (k : Int) = k := by rw [IntKind.wrap_i64]; omega
        have hneg : ¬ ((k : Int) < 0) := by omega
        have h48i : ¬ (281474976710656 < (k : Int) * 16) := by omega
        have hzz : Builtin.zeroCells #[.int .i64 0, .int .i32 0, .int .u16 0, .int .u8 0, .int .u8 0] k = (wdV (List.replicate k zw)).toArray := by rw [← zeroW]
        simp [Builtin.append_, run_underlying slice41, run_underlying int3, sizeOf, typeInfo, zeroValue, hi0, hz0, hz1, hz2, asInt, asIntOf, hw, hneg, h48i, hroom, hcells, Addr.add_lit, hst, hzz]
        omega
      refine ⟨g, cap, _, hr, ⟨by rw [wdV_len], .inr ⟨g, cap, _, by rw [hlen], hbg, setRow_heap w g cur _ 79 _ hg, by rw [hlen]; exact hroom, hcm, ?_, ?_⟩⟩, ⟨rfl, rfl, rfl, by simp, fun j _ hj => setRow_other w g j _ (fun e => hj (by simp [Value.ownBlock, e]))⟩, .inl rfl, hroom⟩
      · simp only [List.size_toArray, List.length_append, List.length_take, List.length_drop, Array.length_toList, wdV_len, List.length_replicate]
        omega
      · rw [htake, hlen, wdV_app]
        have e : (L.length + k) * 5 = (wdV L ++ wdV (List.replicate k zw)).length := by simp [wdV_len]; omega
        rw [e]
        exact List.take_left
    · have holds : ∀ j u, (wdV L)[j]? = some u → w.drew.cell? ((⟨g, 0, none⟩ : Addr).add j) = some u := fun j u hj => World.ownsRow.cells (g := g) ho rfl j u hj
      have hf := run_firstCells_some (P := Try.prog) w.drew i0.size L.length ⟨g, 0, none⟩ L.length cap (wdV L) (by rw [hz1, wdV_len]) holds
      have hr := Lib.run_append_grow_zeros (P := Try.prog) w 41 3 ty 79 i0 _ .i64 .i64 slice41 int3 hi0 hz0 (some ⟨g, 0, none⟩) L.length cap (wdV L) hf k hk (by rw [hz1]; decide) (by omega) (by omega) (by rw [hz2]; omega) (growslice_fits (by omega) (by rw [hz2]; omega))
      obtain ⟨g1, g2⟩ := grown cap (by omega) (Value.ownBlock (.slice (some ⟨g, 0, none⟩) L.length cap))
      rw [hcells] at hr
      exact ⟨_, _, _, hr, g1, g2, .inr rfl, grownCap_ge w _ _ _⟩
end Go.Proofs.Ytfeopoamednidaa
