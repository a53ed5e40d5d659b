/-
  The document's own solver as it lies in memory; what a type is on top (Top).
-/
import Derived.Test.YtbgpjaniohpfaaaK9
namespace Go.Proofs.Ytbgpjaniohpfaaa
open Go.RowKit Go.Deep
theorem map50 : Try.prog.underlying 50 = some (.map 3 3) := by kernel_rfl
/-- Which variables are of compared types, as the document's solver holds it: those alone of which it is known. -/
def EqR (w : World) (b n : Nat) (q : Int → Int) (V : List Int) : Prop :=
  ∃ (F : Int → Option Value) (MQ : Int → Option Ty), MapAt w b n F ∧ (∀ x, (MQ x).isSome = (F x).isSome) ∧ Bal n MQ V ∧ (∀ x, (F x = none ∧ q x = 0) ∨ (F x = some (.int .i64 (q x)) ∧ (q x = 0 ∨ q x = 1)))
theorem EqR.kp {X : List Nat} {w w' : World} {b n : Nat} {q : Int → Int} {V : List Int} (h : EqR w b n q V) (hk : Kp X w w') (hb : b ∉ X) : EqR w' b n q V := by
  obtain ⟨F, MQ, h1, h2⟩ := h
  exact ⟨F, MQ, h1.kp hk hb, h2⟩
theorem EqR.lt {w : World} {b n : Nat} {q : Int → Int} {V : List Int} (h : EqR w b n q V) : b < w.heap.size := let ⟨_, _, h1, _⟩ := h; h1.lt
theorem EqR.bit {w : World} {b n : Nat} {q : Int → Int} {V : List Int} (h : EqR w b n q V) (x : Int) : q x = 0 ∨ q x = 1 := by
  obtain ⟨F, MQ, _, _, _, h3⟩ := h
  rcases h3 x with h | h
  · exact .inl h.2
  · exact h.2
theorem EqR.look {w : World} {b n : Nat} {q : Int → Int} {V : List Int} (h : EqR w b n q V) {x : Int} (hx : (Lit.int .i64 x).wf = true) : (Instr.lookup 50 (.map (some b)) (.int .i64 x) false).run Try.prog w = .ok (.int .i64 (q x)) w := by
  obtain ⟨F, MQ, h1, _, _, h3⟩ := h
  rw [h1.look map50 zero3 hx]
  rcases h3 x with ⟨e1, e2⟩ | ⟨e1, _⟩
  · rw [e1, e2]; rfl
  · rw [e1]; rfl
theorem EqR.store {w : World} {b n : Nat} {q : Int → Int} {V : List Int} (h : EqR w b n q V) {x : Int} (hx : (Lit.int .i64 x).wf = true) (hV : x ∈ V) :
    ∃ w' n', (Instr.mapUpdate 50 (.map (some b)) (.int .i64 x) (.int .i64 1)).run Try.prog w = .ok () w' ∧ EqR w' b n' (upd q x 1) V ∧ Kp [b] w w' := by
  obtain ⟨F, MQ, h1, h2, h3, h4⟩ := h
  have hb : ∃ n', n' = (if (F x).isSome = true then n else n + 1) ∧ Bal n' (upd MQ x (some (.vr x))) V ∧ n < maxLen := by
    by_cases hs : (F x).isSome = true
    · refine ⟨n, by rw [if_pos hs], h3.same fun y => ?_, ?_⟩
      · by_cases hy : y = x
        · subst hy; rw [upd_same, h2, hs]; rfl
        · rw [upd_other _ _ hy]
      · have := h3.sum; have := h3.room; omega
    · have hm : MQ x = none := by
        have := h2 x
        cases hq : MQ x with
        | none => rfl
        | some y => rw [hq] at this; exact absurd this.symm hs
      obtain ⟨hb, _⟩ := h3.bind (M' := upd MQ x (some (.vr x))) (m := x) (fun y => by
        by_cases hy : y = x
        · subst hy; rw [upd_same]; simp
        · rw [upd_other _ _ hy]; simp [hy]) hm hV
      exact ⟨n + 1, by rw [if_neg hs], hb, by have := h3.sum; have := h3.room; omega⟩
  obtain ⟨n', hn', hbal, hroom⟩ := hb
  obtain ⟨w', hrun, hm, hk⟩ := h1.store map50 hroom hx (.int .i64 1)
  rw [← hn'] at hm
  refine ⟨w', n', hrun, ⟨upd F x (some (.int .i64 1)), upd MQ x (some (.vr x)), hm, fun y => ?_, hbal, fun y => ?_⟩, hk⟩
  · by_cases hy : y = x
    · subst hy; rw [upd_same, upd_same]; rfl
    · rw [upd_other _ _ hy, upd_other _ _ hy]; exact h2 y
  · by_cases hy : y = x
    · subst hy; rw [upd_same, upd_same]; exact .inr ⟨rfl, .inr rfl⟩
    · rw [upd_other _ _ hy, upd_other _ _ hy]; exact h4 y
/-- The document's solver. -/
structure Rq (wb w : World) (sp bM bQ n nq : Nat) (M : Int → Option Ty) (f : Int → Ty) (q : Int → Int) (V : List Int) : Prop where
  sv : Sv noMarks wb w sp bM n M f
  cell1 : w.cell? ⟨sp, 1, none⟩ = some (.map (some bQ))
  eq : EqR w bQ nq q V
  hi : wb.heap.size ≤ bQ ∧ bM ≠ bQ ∧ sp ≠ bQ
theorem Rq.kp {X : List Nat} {wb w w' : World} {sp bM bQ n nq : Nat} {M : Int → Option Ty} {f : Int → Ty} {q : Int → Int} {V : List Int} (h : Rq wb w sp bM bQ n nq M f q V) (hk : Kp X w w') (hX : sp ∉ X ∧ bM ∉ X ∧ bQ ∉ X ∧ ∀ x ∈ X, wb.heap.size ≤ x) : Rq wb w' sp bM bQ n nq M f q V :=
  ⟨h.sv.kp hk ⟨hX.1, hX.2.1, hX.2.2.2⟩, hk.cell h.cell1 hX.1, h.eq.kp hk hX.2.2.1, h.hi⟩
theorem Rq.below {wb w w' : World} {sp bM bQ n nq : Nat} {M : Int → Option Ty} {f : Int → Ty} {q : Int → Int} {V : List Int} (h : Rq wb w sp bM bQ n nq M f q V) (hb : Below w.heap.size w w') : Rq wb w' sp bM bQ n nq M f q V := h.kp (X := []) (Kp.of_below hb) (by simp)
theorem Rq.lt {wb w : World} {sp bM bQ n nq : Nat} {M : Int → Option Ty} {f : Int → Ty} {q : Int → Int} {V : List Int} (h : Rq wb w sp bM bQ n nq M f q V) : sp < w.heap.size ∧ bM < w.heap.size ∧ bQ < w.heap.size ∧ sp ≠ bM ∧ sp ≠ bQ ∧ bM ≠ bQ ∧ wb.heap.size ≤ w.heap.size :=
  ⟨h.sv.lt.1, h.sv.lt.2.1, h.eq.lt, h.sv.lt.2.2, h.hi.2.2, h.hi.2.1, h.sv.base.size⟩
theorem Box.set3 {w : World} {b : Nat} {c0 c1 c2 c3 c4 : Value} (h : Box w b c0 c1 c2 c3 c4) (d : Value) : Box (w.setCell ⟨b, 3, none⟩ d) b c0 c1 c2 d c4 := by
  unfold Box at *
  simp [World.setCell, Array.getElem?_modify, h]
theorem wf_bit {c : Int} (h : c = 0 ∨ c = 1) : (Lit.int .i64 c).wf = true := by
  rcases h with rfl | rfl <;> decide
theorem TyIn.eqd0 {w : World} {k m : Int} {s : ByteArray} {e : Int} {l : List Ty} {cs : List Value} (h : TyIn w cs (.mk k m s e l)) {c : Int} (hc : c = 0 ∨ c = 1) : ∃ p cap, cs = [.int .i64 k, .int .i64 m, .string s, .int .i64 e, .slice p l.length cap] ∧ TyIn w [.int .i64 k, .int .i64 m, .string s, .int .i64 c, .slice p l.length cap] (.mk k m s c l) := by
  cases h with
  | mk _ _ _ _ _ p cap b o C hp hw hcc hr => exact ⟨p, cap, rfl, TyIn.mk k m s c l p cap b o C hp ⟨hw.1, hw.2.1, wf_bit hc, hw.2.2.2⟩ hcc hr⟩
theorem TyIn.eqd {w : World} {k m : Int} {s : ByteArray} {e : Int} {l : List Ty} {p : Option Addr} {cap : Nat} (h : TyIn w [.int .i64 k, .int .i64 m, .string s, .int .i64 e, .slice p l.length cap] (.mk k m s e l)) {c : Int} (hc : c = 0 ∨ c = 1) : TyIn w [.int .i64 k, .int .i64 m, .string s, .int .i64 c, .slice p l.length cap] (.mk k m s c l) := by
  obtain ⟨p', cap', h1, h2⟩ := h.eqd0 hc
  simp only [List.cons.injEq, Value.slice.injEq, true_and, and_true] at h1
  obtain ⟨rfl, rfl⟩ := h1
  exact h2
theorem shaped_eqd {m : Int} {s : ByteArray} {e : Int} {l : List Ty} (h : (Ty.mk 0 m s e l).okm noMarks) {c : Int} (hc : c = 0 ∨ c = 1) : (Ty.mk 0 m s c l).okm noMarks := by
  refine ⟨?_, trivial⟩
  have h := h.1
  unfold Ty.shaped at *
  rw [if_pos rfl] at *
  simp only [Bool.and_eq_true, decide_eq_true_eq] at *
  exact ⟨⟨⟨h.1.1.1, by omega⟩, by omega⟩, h.2⟩
theorem Full.eqd {M : Int → Option Ty} {m : Int} {s : ByteArray} {e : Int} {l : List Ty} {X : Ty} (h : Full M (.mk 0 m s e l) X) (hm : M m = none) (c : Int) : Full M (.mk 0 m s c l) X := by
  cases h with
  | bound _ _ _ _ _ U _ hk hu h => rw [hm] at hu; cases hu
  | free _ _ _ _ _ hk hu => exact Full.free 0 m s c l rfl hm
  | args _ _ _ _ _ r hk hl h => exact absurd rfl hk
theorem Chain.stop {M : Int → Option Ty} {g : Nat} {u v : Ty} (h : Chain M g u v) (hn : ¬ (u.kind = 0 ∧ (M u.num).isSome = true)) : u = v := by
  cases h with
  | here _ _ => rfl
  | step j _ x _ g0 g1 g2 => exact absurd ⟨g0, by rw [g1]; rfl⟩ hn
theorem Chain.next {M : Int → Option Ty} {g : Nat} {u v x : Ty} (h : Chain M g u v) (h0 : u.kind = 0) (h1 : M u.num = some x) : ∃ j, g = j + 1 ∧ Chain M j x v := by
  cases h with
  | here _ hh => exact absurd ⟨h0, by rw [h1]; rfl⟩ hh
  | step j _ y _ g0 g1 g2 =>
    rw [h1] at g1
    cases g1
    exact ⟨j, rfl, g2⟩
/-- What Top leaves. -/
inductive TopPost (wb : World) (M : Int → Option Ty) (q : Int → Int) (X : Ty) (w : World) (e' : Ending) (w' : World) : Prop
  | mk (k m : Int) (s : ByteArray) (e : Int) (l : List Ty) (p : Option Addr) (cap : Nat) (he : e' = .returned (.agg #[.int .i64 k, .int .i64 m, .string s, .int .i64 e, .slice p l.length cap])) (ht : TyIn wb [.int .i64 k, .int .i64 m, .string s, .int .i64 e, .slice p l.length cap] (.mk k m s e l))
      (hs : (Ty.mk k m s e l).okm noMarks) (hf : Full M (.mk k m s e l) X) (hu : k = 0 → M m = none) (hb : Below w.heap.size w w') (hq : k = 0 → e = q m) : TopPost wb M q X w e' w'
set_option maxHeartbeats 4000000 in
set_option maxRecDepth 100000 in
theorem topR_any (wb w : World) (sp bM bQ n nq : Nat) (M : Int → Option Ty) (f : Int → Ty) (q : Int → Int) (V : List Int) (k m : Int) (s : ByteArray) (e : Int) (l : List Ty) (p : Option Addr) (cap : Nat)
    (hS : Rq wb w sp bM bQ n nq M f q V) (hT : TyIn wb [.int .i64 k, .int .i64 m, .string s, .int .i64 e, .slice p l.length cap] (.mk k m s e l)) (hsh : (Ty.mk k m s e l).okm noMarks) :
    Calls Try.prog 36 #[.pointer (some ⟨sp, 0, none⟩), .agg #[.int .i64 k, .int .i64 m, .string s, .int .i64 e, .slice p l.length cap]] w fun e' w' => TopPost wb M q ((Ty.mk k m s e l).app f) w e' w' := by
  have HS : Hid (Rq wb w sp bM bQ n nq M f q V) := hS
  obtain ⟨K, v, hc, hfv, hkv⟩ := (hS.sv.agr.full (.mk k m s e l)).chain
  have Hc : Hid (Chain M K (.mk k m s e l) v) := hc
  have Hfv : Hid (Full M v ((Ty.mk k m s e l).app f)) := hfv
  have Hkv : Hid (v.kind = 0 → M v.num = none) := hkv
  have hlt := hS.lt
  generalize (Ty.mk k m s e l).app f = X at *
  have hb0 := ((Below.refl w.heap.size w).alloc (Nat.le_refl _) (Obj.cells #[Value.int IntKind.i64 k, Value.int IntKind.i64 m, Value.string s, Value.int IntKind.i64 e, Value.slice p l.length cap] 33)).alloc (by simp) (Obj.cells #[Value.int IntKind.i64 0, Value.int IntKind.i64 0, Value.string { data := #[] }, Value.int IntKind.i64 0, Value.slice none 0 0] 33)
  have hx1 := (Box.new w (.int .i64 k) (.int .i64 m) (.string s) (.int .i64 e) (.slice p l.length cap)).kp (Kp.alloc [] _ (Obj.cells #[Value.int IntKind.i64 0, Value.int IntKind.i64 0, Value.string { data := #[] }, Value.int IntKind.i64 0, Value.slice none 0 0] 33)) (by simp)
  have hx2 := Box.new (w.alloc (Obj.cells #[Value.int IntKind.i64 k, Value.int IntKind.i64 m, Value.string s, Value.int IntKind.i64 e, Value.slice p l.length cap] 33)) (.int .i64 0) (.int .i64 0) (.string { data := #[] }) (.int .i64 0) (.slice none 0 0)
  rw [heap_size_alloc] at hx2
  have HR0 : Hid (TyBox noMarks wb _ w.heap.size (.mk k m s e l) ∧ Box _ (w.heap.size + 1) (.int .i64 0) (.int .i64 0) (.string { data := #[] }) (.int .i64 0) (.slice none 0 0) ∧ Chain M K (.mk k m s e l) v ∧ Below w.heap.size w _) := ⟨TyBox.mk k m s e l p cap hx1 hT hsh, hx2, hc, hb0⟩
  clear hS hT hsh hc hfv hkv hx1 hx2 hb0 Hc
  go_enter Try.func36, Try.ntmps36
  go_wp2_with fail
  generalize (w.alloc (Obj.cells #[Value.int IntKind.i64 k, Value.int IntKind.i64 m, Value.string s, Value.int IntKind.i64 e, Value.slice p l.length cap] 33)).alloc (Obj.cells #[Value.int IntKind.i64 0, Value.int IntKind.i64 0, Value.string { data := #[] }, Value.int IntKind.i64 0, Value.slice none 0 0] 33) = w0 at *
  go_loopg [6] K (fun g pv wr => ∃ (u : Ty), Hid (TyBox noMarks wb wr w.heap.size u ∧ Box wr (w.heap.size + 1) (.int .i64 0) (.int .i64 0) (.string { data := #[] }) (.int .i64 0) (.slice none 0 0) ∧ Chain M g u v ∧ Below w.heap.size w wr))
  case atStart => exact ⟨_, HR0.out⟩
  case round =>
    clear HR0
    obtain ⟨u, HR⟩ := hrel
    obtain ⟨r1, r2, r3, r4⟩ := HR.out
    clear HR
    cases r1 with
    | mk k0 m0 s0 e0 l0 p0 cap0 hE hEt hEs =>
    obtain ⟨n0, n1, n2, n3, n4⟩ := hE.cells
    have RE : Hid (Box wr w.heap.size (.int .i64 k0) (.int .i64 m0) (.string s0) (.int .i64 e0) (.slice p0 l0.length cap0)) := hE
    have R2 : Hid (Box wr (w.heap.size + 1) (.int .i64 0) (.int .i64 0) (.string { data := #[] }) (.int .i64 0) (.slice none 0 0)) := r2
    have R3 : Hid (Chain M gk (.mk k0 m0 s0 e0 l0) v) := r3
    have R4 : Hid (Below w.heap.size w wr) := r4
    have RTt : Hid (TyIn wb [.int .i64 k0, .int .i64 m0, .string s0, .int .i64 e0, .slice p0 l0.length cap0] (.mk k0 m0 s0 e0 l0)) := hEt
    have RTs : Hid ((Ty.mk k0 m0 s0 e0 l0).okm noMarks) := hEs
    have hz2 : w.heap.size + 1 < wr.heap.size := r2.lt
    have hwf := (shaped_wf hEt).2.1
    clear hE r2 r3 r4 hEt hEs
    by_cases hk0 : k0 = 0
    · subst hk0
      have hRq := HS.out.below R4.out
      have hA : Below wr.heap.size wr (wr.alloc (Obj.cells #[Value.int IntKind.i64 0, Value.int IntKind.i64 0, Value.string { data := #[] }, Value.int IntKind.i64 0, Value.slice none 0 0] 33)) := (Below.refl _ _).alloc (Nat.le_refl _) _
      obtain ⟨⟨F, hF, hFM⟩, -⟩ := hRq.sv.map
      have hl1 := (hF.kp (X := []) (Kp.refl _ _).drew (by simp)).lookOk map49 zero33 hwf
      have hl2 := (hF.kp (X := []) (Kp.of_below hA).drew (by simp)).lookOk map49 zero33 hwf
      have hs1 := hRq.sv.cell
      have hs2 := (hRq.below hA).sv.cell
      obtain ⟨y0, y1, y2, y3, y4⟩ := (Box.kp RE.out (X := []) (Kp.of_below hA) (by simp)).cells
      have hW1 : Below wr.heap.size wr (wr.alloc (Obj.cells #[Value.int IntKind.i64 0, Value.int IntKind.i64 0, Value.string { data := #[] }, Value.int IntKind.i64 0, Value.slice none 0 0] 33)).drew := hA.drew
      have HRq : Hid (Rq wb wr sp bM bQ n nq M f q V) := hRq
      have HW1 : Hid _ := hW1
      clear hRq hF hA hW1
      rcases hFM m0 with ⟨h1, h2⟩ | ⟨T, cs, h1, h2, h3, h4⟩
      · rw [h2] at hl1 hl2
        have Hm : Hid (M m0 = none) := h1
        clear h1 h2 hFM
        simp only [Option.getD_none, Option.isSome_none] at hl1 hl2
        go_wp2_with fail
        go_region
        all_goals have hRq1 := HRq.out.below HW1.out
        all_goals have hBx := Box.kp RE.out (X := []) (Kp.of_below HW1.out) (by simp)
        all_goals have hBy := Box.kp R2.out (X := []) (Kp.of_below HW1.out) (by simp)
        all_goals have hbW : Below w.heap.size w _ := R4.out.trans (Below.mono HW1.out (Below.size R4.out))
        all_goals clear hl1 hl2 y0 y1 y2 y3 y4 n0 n1 n2 n3 n4 hs1 hs2
        all_goals generalize (wr.alloc (Obj.cells #[Value.int IntKind.i64 0, Value.int IntKind.i64 0, Value.string { data := #[] }, Value.int IntKind.i64 0, Value.slice none 0 0] 33)).drew = W1 at *
        all_goals obtain ⟨n0, n1, n2, n3, n4⟩ := hBx.cells
        all_goals have hfr := hBx.frozen 3
        all_goals have hc1 := hRq1.cell1
        all_goals have hq1 := (hRq1.eq.kp (X := []) (Kp.refl _ _).drew (by simp)).look hwf
        all_goals go_wp2_with fail
        all_goals go_region
        all_goals have hbit := hRq1.eq.bit m0
        all_goals have hB2 := Box.kp (X := []) (hBx.set3 (.int .i64 (q m0))) (Kp.refl _ _).drew (by simp)
        all_goals have hK2 : Kp [w.heap.size] W1 (W1.setCell ⟨w.heap.size, 3, none⟩ (.int .i64 (q m0))).drew := (Kp.setCell W1 ⟨w.heap.size, 3, none⟩ (by simp) _).drew
        all_goals have hY2 := hBy.kp hK2 (by simp)
        all_goals have hbW2 : Below w.heap.size w _ := hbW.trans (hK2.below hbW.size (by simp))
        all_goals clear hK2 hBx hBy hbW n0 n1 n2 n3 n4 hfr hc1 hq1 hRq1 HW1
        all_goals generalize (W1.setCell ⟨w.heap.size, 3, none⟩ (.int .i64 (q m0))).drew = W2 at *
        all_goals obtain ⟨n0, n1, n2, n3, n4⟩ := hB2.cells
        all_goals have Hbit : Hid (q m0 = 0 ∨ q m0 = 1) := hbit
        all_goals clear hbit
        all_goals go_wp2_with (refine wpList_store5 rfl _ _ rfl rfl _ rfl rfl hY2 (one5 _ _ _ _ _ _ _) ?_; intro w6 hB6 hk6)
        all_goals obtain ⟨q0, q1, q2, q3, q4⟩ := hB6.cells
        all_goals obtain rfl := R3.out.stop (by intro hh; have hh2 := hh.2; rw [show M (Ty.mk 0 m0 s0 e0 l0).num = none from Hm.out] at hh2; cases hh2)
        all_goals exact bodyPost_ret (v := .agg #[.int .i64 0, .int .i64 m0, .string s0, .int .i64 (q m0), .slice p0 l0.length cap0]) (by simp [results, Try.results36, go_sem, q0, q1, q2, q3, q4]) rfl (TopPost.mk 0 m0 s0 (q m0) l0 p0 cap0 rfl (RTt.out.eqd Hbit.out) (shaped_eqd RTs.out Hbit.out) (Full.eqd Hfv.out Hm.out (q m0)) (fun _ => Hm.out) (hbW2.trans (hk6.below hbW2.size (by simp))) (fun _ => rfl))
      · cases T with
        | mk k1 m1 s1 e1 l1 =>
        obtain ⟨p1, cap1, rfl, _⟩ := h3.elem
        rw [h2] at hl1 hl2
        have Hm : Hid (M m0 = some (Ty.mk k1 m1 s1 e1 l1)) := h1
        have H3 : Hid (TyIn wb [.int .i64 k1, .int .i64 m1, .string s1, .int .i64 e1, .slice p1 l1.length cap1] (.mk k1 m1 s1 e1 l1)) := h3
        have H4 : Hid ((Ty.mk k1 m1 s1 e1 l1).okm noMarks) := h4
        clear h1 h2 h3 h4 hFM HW1
        simp only [Option.getD_some, Option.isSome_some, List.toArray] at hl1 hl2
        go_wp2_with fail
        go_region
        all_goals have hW1 : Below wr.heap.size wr (wr.alloc (Obj.cells #[.int .i64 k1, .int .i64 m1, .string s1, .int .i64 e1, .slice p1 l1.length cap1] 33)).drew := ((Below.refl _ _).alloc (Nat.le_refl _) _).drew
        all_goals have hBx := Box.kp RE.out (X := []) (Kp.of_below hW1) (by simp)
        all_goals have hBy := Box.kp R2.out (X := []) (Kp.of_below hW1) (by simp)
        all_goals have hBn := Box.kp (X := []) (Box.new wr (.int .i64 k1) (.int .i64 m1) (.string s1) (.int .i64 e1) (.slice p1 l1.length cap1)) (Kp.refl _ _).drew (by simp)
        all_goals have hbW : Below w.heap.size w _ := R4.out.trans (hW1.mono (Below.size R4.out))
        all_goals clear hl1 hl2 y0 y1 y2 y3 y4 n0 n1 n2 n3 n4 hs1 hs2 hW1
        all_goals generalize (wr.alloc (Obj.cells #[.int .i64 k1, .int .i64 m1, .string s1, .int .i64 e1, .slice p1 l1.length cap1] 33)).drew = W1 at *
        all_goals obtain ⟨n0, n1, n2, n3, n4⟩ := hBn.cells
        all_goals go_wp2_with (refine wpList_store5 rfl _ _ rfl rfl _ rfl rfl hBx (one5 _ _ _ _ _ _ _) ?_; intro w6 hB6 hk6)
        all_goals obtain ⟨j, rfl, hch⟩ := R3.out.next rfl Hm.out
        all_goals have hy2 := hBy.kp hk6 (by simp)
        all_goals have hbW2 : Below w.heap.size w w6 := hbW.trans (hk6.below hbW.size (by simp))
        all_goals have HF : Hid (TyBox noMarks wb w6 w.heap.size (.mk k1 m1 s1 e1 l1) ∧ Box w6 (w.heap.size + 1) (.int .i64 0) (.int .i64 0) (.string { data := #[] }) (.int .i64 0) (.slice none 0 0) ∧ Chain M j (.mk k1 m1 s1 e1 l1) v ∧ Below w.heap.size w w6) := ⟨TyBox.mk k1 m1 s1 e1 l1 p1 cap1 hB6 H3.out H4.out, hy2, hch, hbW2⟩
        all_goals clear hBx hBy hBn hbW n0 n1 n2 n3 n4 hk6 hB6 hch hy2 hbW2
        all_goals go_wp2
        all_goals go_roundg j
        all_goals first | omega | exact ⟨_, HF.out⟩
    · have hk' : (k0 == 0) = false := by simpa using hk0
      have Hk0 : Hid (¬ k0 = 0) := hk0
      clear hk0
      go_wp2_with (refine wpList_store5 rfl _ _ rfl rfl _ rfl rfl R2.out (one5 _ _ _ _ _ _ _) ?_; intro w6 hB6 hk6)
      obtain ⟨q0, q1, q2, q3, q4⟩ := hB6.cells
      obtain rfl := R3.out.stop (by intro hh; exact Hk0.out hh.1)
      have hb6 : Below w.heap.size w w6 := R4.out.trans (hk6.below R4.out.size (by simp))
      exact bodyPost_ret (v := .agg #[.int .i64 k0, .int .i64 m0, .string s0, .int .i64 e0, .slice p0 l0.length cap0]) (by simp [results, Try.results36, go_sem, q0, q1, q2, q3, q4]) rfl (TopPost.mk k0 m0 s0 e0 l0 p0 cap0 rfl RTt.out RTs.out Hfv.out (fun h => absurd h Hk0.out) hb6 (fun h => absurd h Hk0.out))
end Go.Proofs.Ytbgpjaniohpfaaa
