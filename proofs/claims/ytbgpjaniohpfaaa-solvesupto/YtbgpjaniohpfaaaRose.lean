/-
  Types as trees with many kids, as they lie in memory: opened from an argument's reading, kept where memory only grows. Plain laws: no function of the program is named.
-/
import Derived.WalkKit
import Derived.WalkSpells
import Derived.WalkLawsBesides
import Derived.Deep.Slices
import Derived.Deep.Heap
namespace Go.Proofs.Ytbgpjaniohpfaaa
open Go.RowKit Go.Deep
theorem Below.then {B : Nat} {a b c : World} (h : Below B a b) (k : Below b.heap.size b c) (hB : B ≤ a.heap.size) : Below B a c := h.trans (k.mono (Nat.le_trans hB h.size))
theorem val_int {k : IntKind} {a b : Int} (h : a = b) : Value.int k a = .int k b := by rw [h]
theorem ret_int {k : IntKind} {a b : Int} (h : a = b) : Ending.returned (.int k a) = .returned (.int k b) := by rw [h]
theorem ret_bool {a b : Bool} (h : a = b) : Ending.returned (.bool a) = .returned (.bool b) := by rw [h]
/-- A type: its kind, number, name, whether its values are compared, its arguments. -/
inductive Ty where
  | mk (kind n : Int) (name : ByteArray) (eq : Int) (args : List Ty)
instance : Inhabited Ty := ⟨.mk 0 0 { data := #[] } 0 []⟩
/-- The type lies in memory: its own five cells, and those of its arguments. -/
inductive TyIn (w : World) : List Value → Ty → Prop
  | mk (k n : Int) (s : ByteArray) (e : Int) (as : List Ty) (p : Option Addr) (cap b o : Nat) (C : Nat → List Value)
      (hp : as ≠ [] → p = some ⟨b, o, none⟩)
      (hw : (Lit.int .i64 k).wf = true ∧ (Lit.int .i64 n).wf = true ∧ (Lit.int .i64 e).wf = true ∧ s.size ≤ maxLen ∧ as.length ≤ maxLen ∧ as.length ≤ cap)
      (hc : ∀ i, i < as.length → ∀ j, j < 5 → w.cell? ⟨b, o + (i * 5 + j), none⟩ = (C i)[j]?)
      (hr : ∀ i (h : i < as.length), TyIn w (C i) (as[i]'h)) :
      TyIn w [.int .i64 k, .int .i64 n, .string s, .int .i64 e, .slice p as.length cap] (.mk k n s e as)
section
variable {H : Type} {enc : TypeId × Value → H} {P : Program} {w : World} {base : Nat} {sp : Nat → Bool} {hd : Bool} {te ts ti tx : TypeId} {f0 f1 f2 f3 f4 : Field}
/-- What a type of the program has to be for its values to be read as types. -/
structure TyShape (P : Program) (te ts ti tx : TypeId) (f0 f1 f2 f3 f4 : Field) : Prop where
  he : P.underlying te = some (.struct #[f0, f1, f2, f3, f4])
  hc : P.cellsOf te = 5
  hs : P.underlying ts = some (.slice te)
  hi : P.underlying ti = some (.int .i64)
  hx : P.underlying tx = some .string
  cs : P.cellsOf ts = 1
  ci : P.cellsOf ti = 1
  cx : P.cellsOf tx = 1
  o : f0.offset = 0 ∧ f1.offset = 1 ∧ f2.offset = 2 ∧ f3.offset = 3 ∧ f4.offset = 4
  t : f0.type = ti ∧ f1.type = ti ∧ f2.type = tx ∧ f3.type = ti ∧ f4.type = ts
theorem open_ty (S : TyShape P te ts ti tx f0 f1 f2 f3 f4) : ∀ (fuel : Nat) (cs : List Value) (x : DataW H × List MemPlace), DataW.trod enc P w base sp hd fuel te cs = some x → ∃ T : Ty, TyIn w cs T := by
  intro fuel
  induction fuel using Nat.strongRecOn with
  | _ fuel ih =>
    intro cs x h
    obtain ⟨xs, n, rfl, _, hlen, hx5, hf⟩ := DataW.trod_struct S.he h
    obtain ⟨o0, o1, o2, o3, o4⟩ := S.o
    obtain ⟨t0, t1, t2, t3, t4⟩ := S.t
    rw [S.hc] at hlen
    have e0 := hf 0 f0 rfl
    have e1 := hf 1 f1 rfl
    have e2 := hf 2 f2 rfl
    have e3 := hf 3 f3 rfl
    have e4 := hf 4 f4 rfl
    rw [o0, t0, S.ci] at e0
    rw [o1, t1, S.ci] at e1
    rw [o2, t2, S.cx] at e2
    rw [o3, t3, S.ci] at e3
    rw [o4, t4, S.cs] at e4
    match cs, hlen with
    | [c0, c1, c2, c3, c4], _ =>
      have hx : ∀ i, i < 5 → ∃ y, xs[i]? = some y := fun i hi => ⟨xs[i]'(by rw [hx5]; exact hi), List.getElem?_eq_getElem _⟩
      obtain ⟨y0, g0⟩ := hx 0 (by omega)
      obtain ⟨y1, g1⟩ := hx 1 (by omega)
      obtain ⟨y2, g2⟩ := hx 2 (by omega)
      obtain ⟨y3, g3⟩ := hx 3 (by omega)
      obtain ⟨y4, g4⟩ := hx 4 (by omega)
      obtain ⟨k, hk, _, wk⟩ := DataW.trod_int S.hi (e0.trans g0)
      obtain ⟨m, hm, _, wm⟩ := DataW.trod_int S.hi (e1.trans g1)
      obtain ⟨s, hs, _, ws⟩ := DataW.trod_string S.hx (e2.trans g2)
      obtain ⟨e, he, _, we⟩ := DataW.trod_int S.hi (e3.trans g3)
      obtain rfl : c0 = .int .i64 k := by simpa using hk
      obtain rfl : c1 = .int .i64 m := by simpa using hm
      obtain rfl : c2 = .string s := by simpa using hs
      obtain rfl : c3 = .int .i64 e := by simpa using he
      rcases DataW.trod_slice S.hs (e4.trans g4) with ⟨h0, _⟩ | ⟨a, len, cap, elems, rest, n', rfl, h0, _, hb, hl, hmx, hel, hat, _, _⟩
      · obtain rfl : c4 = .slice none 0 0 := by simpa using h0
        exact ⟨.mk k m s e [], TyIn.mk k m s e [] none 0 0 0 (fun _ => []) (fun h => absurd rfl h) ⟨wk, wm, we, ws, Nat.zero_le _, Nat.zero_le _⟩ (fun i hi => absurd hi (Nat.not_lt_zero _)) (fun i hi => absurd hi (Nat.not_lt_zero _))⟩
      · obtain rfl : c4 = .slice (some a) len cap := by simpa using h0
        rw [S.hc] at hat
        have key : ∀ i, i < len → ∃ q : List Value × Ty, (∀ j, j < 5 → w.cell? ((a.add (i * 5)).add j) = q.1[j]?) ∧ q.1.length = 5 ∧ TyIn w q.1 q.2 := by
          intro i hi
          have h1 := hat i hi
          rw [List.getElem?_eq_getElem (by omega)] at h1
          obtain ⟨cs', h2, h3⟩ := Option.bind_eq_some_iff.1 h1
          obtain ⟨T, hT⟩ := ih n' (by omega) cs' _ h3
          obtain ⟨_, hl5, hcell⟩ := World.cells?_some h2
          exact ⟨(cs', T), hcell, hl5, hT⟩
        obtain ⟨F, hF⟩ := choose_lt (α := List Value × Ty) key
        have has : ((List.range len).map fun i => (F i).2).length = len := by simp
        by_cases hz : len = 0
        · subst hz
          exact ⟨.mk k m s e [], TyIn.mk k m s e [] (some a) cap 0 0 (fun _ => []) (fun h => absurd rfl h) ⟨wk, wm, we, ws, Nat.zero_le _, Nat.zero_le _⟩ (fun i hi => absurd hi (Nat.not_lt_zero _)) (fun i hi => absurd hi (Nat.not_lt_zero _))⟩
        · obtain ⟨b, o, spot⟩ := a
          have hc0 := (hF 0 (by omega)).1 0 (by omega)
          rw [List.getElem?_eq_getElem (by rw [(hF 0 (by omega)).2.1]; omega)] at hc0
          have hspot : spot = none := by simpa [Addr.add] using World.cell?_spot hc0
          subst hspot
          refine ⟨.mk k m s e ((List.range len).map fun i => (F i).2), ?_⟩
          have hh := TyIn.mk (w := w) k m s e ((List.range len).map fun i => (F i).2) (some ⟨b, o, none⟩) cap b o (fun i => (F i).1) (fun _ => rfl) ⟨wk, wm, we, ws, by rw [has]; omega, by rw [has]; exact hl⟩ ?_ ?_
          · rw [has] at hh
            exact hh
          · intro i hi j hj
            rw [has] at hi
            have := (hF i hi).1 j hj
            rw [add_add, Go.WideShapes.add_plain] at this
            exact this
          · intro i hi
            rw [has] at hi
            simp only [List.getElem_map, List.getElem_range]
            exact (hF i hi).2.2
end
/-- What lies in memory stays where memory only grows. -/
theorem TyIn.keep {w w' : World} {cs : List Value} {T : Ty} (h : TyIn w cs T) (hb : Below w.heap.size w w') : TyIn w' cs T := by
  induction h with
  | mk k n s e as p cap b o C hp hw hc hr ih =>
    refine TyIn.mk k n s e as p cap b o C hp hw ?_ ih
    intro i hi j hj
    have hl : (C i).length = 5 := by
      have := hr i hi
      cases hC : as[i] with
      | mk k' n' s' e' as' =>
        rw [hC] at this
        generalize C i = cs at this
        cases this
        rfl
    have h1 := hc i hi j hj
    rw [List.getElem?_eq_getElem (by omega)] at h1
    rw [hb.cell (p := ⟨b, o + (i * 5 + j), none⟩) (World.block_lt_of_cell? _ _ h1)]
    exact hc i hi j hj
/-- The i-th argument of a type: its five cells. -/
theorem TyIn.elem {w : World} {k n : Int} {s : ByteArray} {e : Int} {as : List Ty} {cs : List Value} (h : TyIn w cs (.mk k n s e as)) :
    ∃ p cap, cs = [.int .i64 k, .int .i64 n, .string s, .int .i64 e, .slice p as.length cap] ∧ as.length ≤ maxLen ∧ as.length ≤ cap ∧
    ∀ i (hi : i < as.length), ∃ b o k' n' s' e' as' p' cap', p = some ⟨b, o, none⟩ ∧ as[i]'hi = .mk k' n' s' e' as' ∧
      w.cell? ⟨b, o + i * 5, none⟩ = some (.int .i64 k') ∧ w.cell? ⟨b, o + i * 5 + 1, none⟩ = some (.int .i64 n') ∧ w.cell? ⟨b, o + i * 5 + 2, none⟩ = some (.string s') ∧
      w.cell? ⟨b, o + i * 5 + 3, none⟩ = some (.int .i64 e') ∧ w.cell? ⟨b, o + i * 5 + 4, none⟩ = some (.slice p' as'.length cap') ∧ b < w.heap.size ∧
      TyIn w [.int .i64 k', .int .i64 n', .string s', .int .i64 e', .slice p' as'.length cap'] (as[i]'hi) := by
  cases h with
  | mk k n s e as p cap b o C hp hw hc hr =>
    refine ⟨p, cap, rfl, hw.2.2.2.2.1, hw.2.2.2.2.2, fun i hi => ?_⟩
    have h1 := hr i hi
    cases hC : as[i] with
    | mk k' n' s' e' as' =>
      rw [hC] at h1
      have hcs := hc i hi
      generalize C i = cs at h1 hcs
      have h2 := h1
      cases h1 with
      | mk _ _ _ _ _ p' cap' _ _ _ _ _ _ _ =>
        have g0 := hcs 0 (by omega)
        exact ⟨b, o, k', n', s', e', as', p', cap', hp (by intro hn; rw [hn] at hi; exact absurd hi (Nat.not_lt_zero _)), rfl, g0, (hcs 1 (by omega)), (hcs 2 (by omega)), (hcs 3 (by omega)), (hcs 4 (by omega)), World.block_lt_of_cell? _ _ g0, h2⟩
end Go.Proofs.Ytbgpjaniohpfaaa
