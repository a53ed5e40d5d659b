/-
  Are a type's values compared; which variables become ones of compared types (compared, compare).
-/
import Derived.Test.YtbgpjaniohpfaaaK6
namespace Go.Proofs.Ytbgpjaniohpfaaa
open Go.RowKit Go.Deep
variable {μ : Marks}
/-- Which variables are of compared types, as it lies in memory. -/
def EqAt (w : World) (b n : Nat) (q : Int → Int) (V : List Int) : Prop :=
  ∃ G, MapAt w b n G ∧ ∀ x, (G x).getD (.int .i64 0) = .int .i64 (q x) ∧ (G x).isSome = V.contains x ∧ (q x = 0 ∨ q x = 1)
theorem EqAt.kp {X : List Nat} {w w' : World} {b n : Nat} {q : Int → Int} {V : List Int} (h : EqAt w b n q V) (hk : Kp X w w') (hb : b ∉ X) : EqAt w' b n q V := by
  obtain ⟨G, h1, h2⟩ := h
  exact ⟨G, h1.kp hk hb, h2⟩
theorem EqAt.lt {w : World} {b n : Nat} {q : Int → Int} {V : List Int} (h : EqAt w b n q V) : b < w.heap.size := let ⟨_, h1, _⟩ := h; h1.lt
theorem EqAt.look {w : World} {b n : Nat} {q : Int → Int} {V : List Int} (h : EqAt w b n q V) {x : Int} (hx : (Lit.int .i64 x).wf = true) : (Instr.lookup 51 (.map (some b)) (.int .i64 x) false).run Try.prog w = .ok (.int .i64 (q x)) w := by
  obtain ⟨G, h1, h2⟩ := h
  rw [h1.look map51 zero3 hx, (h2 x).1]
theorem EqAt.store {w : World} {b n : Nat} {q : Int → Int} {V : List Int} (h : EqAt w b n q V) (hn : n < maxLen) {x : Int} (hx : (Lit.int .i64 x).wf = true) (hV : V.contains x = true) {c : Int} (hc : c = 0 ∨ c = 1) :
    ∃ w', (Instr.mapUpdate 51 (.map (some b)) (.int .i64 x) (.int .i64 c)).run Try.prog w = .ok () w' ∧ EqAt w' b n (upd q x c) V ∧ Kp [b] w w' := by
  obtain ⟨G, h1, h2⟩ := h
  obtain ⟨w', hrun, hm, hk⟩ := h1.store map51 hn hx (.int .i64 c)
  rw [(h2 x).2.1, if_pos hV] at hm
  refine ⟨w', hrun, ⟨_, hm, fun y => ?_⟩, hk⟩
  by_cases hy : y = x
  · subst hy
    rw [upd_same, upd_same]
    exact ⟨rfl, hV.symm ▸ rfl, hc⟩
  · rw [upd_other _ _ hy, upd_other _ _ hy]
    exact h2 y
structure Sq (μ : Marks) (wb w : World) (sp bM bQ n nq : Nat) (M : Int → Option Ty) (f : Int → Ty) (q : Int → Int) (V : List Int) : Prop where
  sv : Sv μ wb w sp bM n M f
  cell : w.cell? ⟨sp, 1, none⟩ = some (.map (some bQ))
  map : EqAt w bQ nq q V
  hi : wb.heap.size ≤ bQ ∧ bM ≠ bQ ∧ sp ≠ bQ
  room : nq < maxLen
  low : ∀ m s e l, (Ty.mk 0 m s e l).okm μ → e ≤ q m
theorem Sq.kp {X : List Nat} {wb w w' : World} {sp bM bQ n nq : Nat} {M : Int → Option Ty} {f : Int → Ty} {q : Int → Int} {V : List Int} (h : Sq μ wb w sp bM bQ n nq M f q V) (hk : Kp X w w') (hX : sp ∉ X ∧ bM ∉ X ∧ bQ ∉ X ∧ ∀ x ∈ X, wb.heap.size ≤ x) : Sq μ wb w' sp bM bQ n nq M f q V :=
  ⟨h.sv.kp hk ⟨hX.1, hX.2.1, hX.2.2.2⟩, hk.cell h.cell hX.1, h.map.kp hk hX.2.2.1, h.hi, h.room, h.low⟩
theorem Sq.drew {wb w : World} {sp bM bQ n nq : Nat} {M : Int → Option Ty} {f : Int → Ty} {q : Int → Int} {V : List Int} (h : Sq μ wb w sp bM bQ n nq M f q V) : Sq μ wb w.drew sp bM bQ n nq M f q V := h.kp (X := []) (Kp.refl _ _).drew (by simp)
theorem Sq.lt {wb w : World} {sp bM bQ n nq : Nat} {M : Int → Option Ty} {f : Int → Ty} {q : Int → Int} {V : List Int} (h : Sq μ wb w sp bM bQ n nq M f q V) : sp < w.heap.size ∧ bM < w.heap.size ∧ bQ < w.heap.size ∧ sp ≠ bM ∧ sp ≠ bQ ∧ bM ≠ bQ ∧ wb.heap.size ≤ w.heap.size :=
  ⟨h.sv.lt.1, h.sv.lt.2.1, h.map.lt, h.sv.lt.2.2, h.hi.2.2, h.hi.2.1, h.sv.base.size⟩
theorem okm_bit {m : Int} {s : ByteArray} {e : Int} {l : List Ty} (h : (Ty.mk 0 m s e l).okm μ) : e = 0 ∨ e = 1 := by
  have h := h.1
  unfold Ty.shaped at h
  rw [if_pos rfl] at h
  simp at h
  omega
/-- One variable more is of compared types. -/
theorem low_upd {q : Int → Int} (h : ∀ m s e l, (Ty.mk 0 m s e l).okm μ → e ≤ q m) (x : Int) : ∀ m s e l, (Ty.mk 0 m s e l).okm μ → e ≤ upd q x 1 m := by
  intro m s e l hm
  by_cases hx : m = x
  · subst hx
    rw [upd_same]
    rcases okm_bit hm with h | h <;> omega
  · rw [upd_other _ _ hx]
    exact h m s e l hm
/-- Ways were made shorter: the variables' own map is as it was. -/
theorem Sq.after {wb w w' : World} {sp bM bQ n nq : Nat} {M M' : Int → Option Ty} {f : Int → Ty} {q : Int → Int} {V : List Int} (h : Sq μ wb w sp bM bQ n nq M f q V) (hS : Sv μ wb w' sp bM n M' f) (hk : Kp [bM] w w') : Sq μ wb w' sp bM bQ n nq M' f q V := by
  have := h.lt
  exact ⟨hS, hk.cell h.cell (by simp <;> omega), h.map.kp hk (by simp <;> omega), h.hi, h.room, h.low⟩
inductive SqPost (μ : Marks) (wb : World) (sp bM bQ n nq : Nat) (f : Int → Ty) (V : List Int) (w : World) (M : Int → Option Ty) (X : List Nat) (q' : Int → Int) (w' : World) : Prop
  | mk (M' : Int → Option Ty) (hS : Sq μ wb w' sp bM bQ n nq M' f q' V) (hd : ∀ x, (M' x).isSome = (M x).isSome) (hk : Kp X w w') : SqPost μ wb sp bM bQ n nq f V w M X q' w'
theorem SqPost.trans {wb : World} {sp bM bQ n nq : Nat} {f : Int → Ty} {V : List Int} {w w1 : World} {M : Int → Option Ty} {X : List Nat} (hk : Kp X w w1) {M1 : Int → Option Ty} (hd : ∀ x, (M1 x).isSome = (M x).isSome) {q' : Int → Int} {w2 : World} (h : SqPost μ wb sp bM bQ n nq f V w1 M1 X q' w2) : SqPost μ wb sp bM bQ n nq f V w M X q' w2 := by
  cases h with
  | mk M' hS hd' hk' => exact SqPost.mk M' hS (fun x => (hd' x).trans (hd x)) (hk.trans hk')
theorem Ty.cmp_var {k m : Int} {s : ByteArray} {e : Int} {l : List Ty} {q : Int → Int} (h : k = 0) : (Ty.mk k m s e l).cmp q = (true, upd q m 1) := by rw [Ty.cmp, if_pos h]
theorem Ty.cmp_no {k m : Int} {s : ByteArray} {e : Int} {l : List Ty} {q : Int → Int} (h0 : ¬ k = 0) (h : k = 3 ∨ (k = 1 ∧ e = 0)) : (Ty.mk k m s e l).cmp q = (false, q) := by rw [Ty.cmp, if_neg h0, if_pos h]
theorem Ty.cmp_yes {k m : Int} {s : ByteArray} {e : Int} {l : List Ty} {q : Int → Int} (h0 : ¬ k = 0) (h : ¬ (k = 3 ∨ (k = 1 ∧ e = 0))) (h2 : k = 1 ∧ e = 2) : (Ty.mk k m s e l).cmp q = (true, q) := by rw [Ty.cmp, if_neg h0, if_neg h, if_pos h2]
theorem Ty.cmp_args {k m : Int} {s : ByteArray} {e : Int} {l : List Ty} {q : Int → Int} (h0 : ¬ k = 0) (h : ¬ (k = 3 ∨ (k = 1 ∧ e = 0))) (h2 : ¬ (k = 1 ∧ e = 2)) : (Ty.mk k m s e l).cmp q = Ty.cmpL l q := by rw [Ty.cmp, if_neg h0, if_neg h, if_neg h2]
theorem Ty.cmpL_step (l : List Ty) (i : Nat) (hi : i < l.length) (q : Int → Int) : Ty.cmpL (l.drop i) q = if ((l[i]'hi).cmp q).1 = true then Ty.cmpL (l.drop (i + 1)) ((l[i]'hi).cmp q).2 else (false, ((l[i]'hi).cmp q).2) := by
  rw [List.drop_eq_getElem_cons hi]
  conv => lhs; unfold Ty.cmpL
/-- What is asked of compared and compare at one type. -/
def CmpAt (μ : Marks) (F : Nat) (wb : World) (sp bM bQ n nq : Nat) (f : Int → Ty) (V : List Int) (args : Value → Array Value) (T : Ty) : Prop :=
  ∀ (w : World) (M : Int → Option Ty) (q : Int → Int) (k m : Int) (s : ByteArray) (e : Int) (l : List Ty) (p : Option Addr) (cap : Nat), T = .mk k m s e l → Sq μ wb w sp bM bQ n nq M f q V → TyIn wb [.int .i64 k, .int .i64 m, .string s, .int .i64 e, .slice p l.length cap] (.mk k m s e l) → T.okm μ → (∀ x, (T.app f).hasV x = true → V.contains x = true) →
    Calls Try.prog F (args (.agg #[.int .i64 k, .int .i64 m, .string s, .int .i64 e, .slice p l.length cap])) w fun e' w' => e' = .returned (.bool ((T.app f).cmp q).1) ∧ SqPost μ wb sp bM bQ n nq f V w M [bM, bQ] ((T.app f).cmp q).2 w'
def cmpArgs (sp : Nat) (v : Value) : Array Value := #[v, .func (Fn.func 52) #[.pointer (some ⟨sp, 0, none⟩)] #[]]
def comArgs (sp : Nat) (v : Value) : Array Value := #[.pointer (some ⟨sp, 0, none⟩), v]
set_option maxHeartbeats 2000000 in
set_option maxRecDepth 100000 in
theorem compared_args {wb : World} {sp bM bQ n nq : Nat} {f : Int → Ty} {V : List Int} {k m : Int} {s : ByteArray} {e : Int} {l : List Ty} (h : ∀ i (hi : i < l.length), CmpAt μ 51 wb sp bM bQ n nq f V (cmpArgs sp) (l[i]'hi)) (h0 : ¬ k = 0) : CmpAt μ 51 wb sp bM bQ n nq f V (cmpArgs sp) (.mk k m s e l) := by
  intro w M q k9 m9 s9 e9 l9 p cap hTe hS hT hsh hV
  cases hTe
  have hlt := hS.lt
  have hk1 : Kp [] w (w.alloc (Obj.cells #[Value.int IntKind.i64 k, Value.int IntKind.i64 m, Value.string s, Value.int IntKind.i64 e, Value.slice p l.length cap] 33)) := Kp.alloc _ _ _
  have hS1 := hS.kp hk1 (by simp)
  obtain ⟨pp, cp, hcs, hl1, hl2, hel⟩ := hT.elem
  obtain ⟨rfl, rfl⟩ : p = pp ∧ cap = cp := by simpa using hcs
  have HS1 : Hid _ := hS1
  have HK1 : Hid (Kp [bM, bQ] w (w.alloc (Obj.cells #[Value.int IntKind.i64 k, Value.int IntKind.i64 m, Value.string s, Value.int IntKind.i64 e, Value.slice p l.length cap] 33))) := hk1.mono (by simp)
  have hk0 : (k == 0) = false := by simpa using h0
  have hcT := Ty.app_mk (f := f) (n := m) (s := s) (e := e) (l := l) h0
  have Hh : Hid (∀ i (hi : i < l.length), CmpAt μ 51 wb sp bM bQ n nq f V (cmpArgs sp) (l[i]'hi)) := h
  have Hel : Hid _ := hel
  have Hsh : Hid ((Ty.mk k m s e l).okm μ) := hsh
  rw [hcT] at hV ⊢
  have HV : Hid (∀ x, (Ty.mk k m s e (l.map (Ty.app f))).hasV x = true → V.contains x = true) := hV
  have H0 : Hid (¬ k = 0) := h0
  unfold maxLen at hl1
  unfold cmpArgs
  clear hel hcs hS hT hsh hV h hS1 hk1 hcT
  by_cases h3 : k = 3
  · have hk3 : (k == 3) = true := by simpa using h3
    have H1 : Hid ((Ty.mk k m s e (l.map (Ty.app f))).cmp q = (false, q)) := Ty.cmp_no h0 (.inl h3)
    clear h3 h0
    generalize (Ty.mk k m s e (l.map (Ty.app f))).cmp q = R at *
    go_enter Try.func51, Try.ntmps51
    go_wp2
    go_ret
    rw [H1.out]
    exact ⟨rfl, SqPost.mk M HS1.out (fun _ => rfl) HK1.out⟩
  · have hk3 : (k == 3) = false := by simpa using h3
    by_cases hk1 : k = 1
    · have hk1' : (k == 1) = true := by simpa using hk1
      by_cases he0 : e = 0
      · have he0' : (e == 0) = true := by simpa using he0
        have H1 : Hid ((Ty.mk k m s e (l.map (Ty.app f))).cmp q = (false, q)) := Ty.cmp_no h0 (.inr ⟨hk1, he0⟩)
        clear h3 h0 hk1 he0
        generalize (Ty.mk k m s e (l.map (Ty.app f))).cmp q = R at *
        go_enter Try.func51, Try.ntmps51
        go_wp2
        go_ret
        rw [H1.out]
        exact ⟨rfl, SqPost.mk M HS1.out (fun _ => rfl) HK1.out⟩
      · have he0' : (e == 0) = false := by simpa using he0
        by_cases he2 : e = 2
        · have he2' : (e == 2) = true := by simpa using he2
          have H1 : Hid ((Ty.mk k m s e (l.map (Ty.app f))).cmp q = (true, q)) := Ty.cmp_yes h0 (by rintro (h | h); exact h3 h; exact he0 h.2) ⟨hk1, he2⟩
          clear h3 h0 hk1 he0 he2
          generalize (Ty.mk k m s e (l.map (Ty.app f))).cmp q = R at *
          go_enter Try.func51, Try.ntmps51
          go_wp2
          go_ret
          rw [H1.out]
          exact ⟨rfl, SqPost.mk M HS1.out (fun _ => rfl) HK1.out⟩
        · have he2' : (e == 2) = false := by simpa using he2
          rw [Ty.cmp_args h0 (by rintro (h | h); exact h3 h; exact he0 h.2) (fun h => he2 h.2)]
          clear h3 h0 hk1 he0 he2
          generalize hR : Ty.cmpL (l.map (Ty.app f)) q = R at *
          have HR : Hid (Ty.cmpL ((l.map (Ty.app f)).drop 0) q = R) := hR
          clear hR
          go_enter Try.func51, Try.ntmps51
          go_wp2_with fail
          generalize w.alloc (Obj.cells #[Value.int IntKind.i64 k, Value.int IntKind.i64 m, Value.string s, Value.int IntKind.i64 e, Value.slice p l.length cap] 33) = w1 at *
          go_loopg [38] l.length (fun g iv wr => ∃ (i : Nat), iv = .int .i64 i ∧ i ≤ l.length ∧ g = l.length - i ∧ Hid (∃ (Mr : Int → Option Ty) (qr : Int → Int), Ty.cmpL ((l.map (Ty.app f)).drop i) qr = R ∧ Sq μ wb wr sp bM bQ n nq Mr f qr V ∧ (∀ x, (Mr x).isSome = (M x).isSome) ∧ Kp [bM, bQ] w wr))
          case atStart => exact ⟨0, rfl, by omega, by omega, M, q, HR.out, HS1.out, fun _ => rfl, HK1.out⟩
          case round =>
            clear HR HS1 HK1
            obtain ⟨i, rfl, hi1, rfl, HRR⟩ := hrel
            by_cases hi : i < l.length
            · have hi' : (i : Int) < l.length := by omega
              obtain ⟨b, o, k2, n2, s2, e2, l2, p2, cap2, rfl, hli, g0, g1, g2, g3, g4, hbw, hty⟩ := Hel.out i hi
              obtain ⟨Mr, qr, r1, r3, r4, r5⟩ := HRR.out
              clear HRR
              have hb := r3.sv.base
              rw [← hb.cell (p := ⟨b, o + i * 5, none⟩) hbw] at g0
              rw [← hb.cell (p := ⟨b, o + i * 5 + 1, none⟩) hbw] at g1
              rw [← hb.cell (p := ⟨b, o + i * 5 + 2, none⟩) hbw] at g2
              rw [← hb.cell (p := ⟨b, o + i * 5 + 3, none⟩) hbw] at g3
              rw [← hb.cell (p := ⟨b, o + i * 5 + 4, none⟩) hbw] at g4
              have hbr := Nat.lt_of_lt_of_le hbw hb.size
              have hsh2 := okm_arg Hsh.out i hi
              have hh := Hh.out i hi
              have hst : R = if (((l[i]'hi).app f).cmp qr).1 = true then Ty.cmpL ((l.map (Ty.app f)).drop (i + 1)) (((l[i]'hi).app f).cmp qr).2 else (false, (((l[i]'hi).app f).cmp qr).2) := by
                rw [← r1, Ty.cmpL_step _ i (by simpa using hi), List.getElem_map]
              have hvv : ∀ x, ((l[i]'hi).app f).hasV x = true → V.contains x = true := by
                intro x hx
                refine HV.out x ?_
                rw [Ty.hasV_mk H0.out, List.any_eq_true]
                exact ⟨_, List.mem_map.2 ⟨_, List.getElem_mem hi, rfl⟩, hx⟩
              have hka : Kp [] wr (wr.alloc (Obj.cells #[Value.int IntKind.i64 k2, Value.int IntKind.i64 n2, Value.string s2, Value.int IntKind.i64 e2, Value.slice p2 l2.length cap2] 33)) := Kp.alloc _ _ _
              have hcall := hh _ Mr qr k2 n2 s2 e2 l2 p2 cap2 hli (r3.kp hka (by simp)) (hli ▸ hty) hsh2 hvv
              unfold cmpArgs at hcall
              have Hcall : Hid _ := hcall
              have R4 : Hid (∀ x, (Mr x).isSome = (M x).isSome) := r4
              have R5 : Hid (Kp [bM, bQ] w (wr.alloc (Obj.cells #[Value.int IntKind.i64 k2, Value.int IntKind.i64 n2, Value.string s2, Value.int IntKind.i64 e2, Value.slice p2 l2.length cap2] 33))) := r5.trans (hka.mono (by simp))
              generalize ((l[i]'hi).app f).cmp qr = C at *
              obtain ⟨c, q7⟩ := C
              have Hst : Hid (R = if c = true then Ty.cmpL ((l.map (Ty.app f)).drop (i + 1)) q7 else (false, q7)) := hst
              clear hcall r1 r3 r4 r5 hsh2 hty hli hb hh hst hvv hka
              go_wp2_with fail
              refine Calls.mono Hcall.out ?_
              rintro e10 w6 ⟨rfl, hp⟩
              have Hp : Hid (SqPost μ wb sp bM bQ n nq f V w M [bM, bQ] q7 w6) := SqPost.trans R5.out R4.out hp
              clear hp Hcall g0 g1 g2 g3 g4
              cases c with
              | true =>
                have Hst2 : Hid (R = Ty.cmpL ((l.map (Ty.app f)).drop (i + 1)) q7) := by have := Hst.out; rw [if_pos rfl] at this; exact this
                clear Hst
                go_wp2
                go_roundg (l.length - (i + 1))
                case measure => omega
                case rel =>
                  cases Hp.out with
                  | mk M6 q1 q2 q3 => exact ⟨i + 1, by first | rfl | (congr 1; omega) | go_num, by omega, rfl, M6, q7, Hst2.out.symm, q1, q2, q3⟩
              | false =>
                have Hst2 : Hid (R = (false, q7)) := by have := Hst.out; rw [if_neg (by simp)] at this; exact this
                clear Hst
                go_wp2
                go_ret
                rw [Hst2.out]
                exact ⟨rfl, Hp.out⟩
            · have hi' : ¬ (i : Int) < l.length := by omega
              go_wp2
              go_ret
              obtain ⟨Mr, qr, r1, r3, r4, r5⟩ := HRR.out
              rw [List.drop_of_length_le (by simp; omega)] at r1
              unfold Ty.cmpL at r1
              subst r1
              exact ⟨rfl, SqPost.mk Mr r3 r4 r5⟩
    · have hk1' : (k == 1) = false := by simpa using hk1
      rw [Ty.cmp_args h0 (by rintro (h | h); exact h3 h; exact hk1 h.1) (fun h => hk1 h.1)]
      clear h3 h0 hk1
      generalize hR : Ty.cmpL (l.map (Ty.app f)) q = R at *
      have HR : Hid (Ty.cmpL ((l.map (Ty.app f)).drop 0) q = R) := hR
      clear hR
      go_enter Try.func51, Try.ntmps51
      go_wp2_with fail
      generalize w.alloc (Obj.cells #[Value.int IntKind.i64 k, Value.int IntKind.i64 m, Value.string s, Value.int IntKind.i64 e, Value.slice p l.length cap] 33) = w1 at *
      go_loopg [38] l.length (fun g iv wr => ∃ (i : Nat), iv = .int .i64 i ∧ i ≤ l.length ∧ g = l.length - i ∧ Hid (∃ (Mr : Int → Option Ty) (qr : Int → Int), Ty.cmpL ((l.map (Ty.app f)).drop i) qr = R ∧ Sq μ wb wr sp bM bQ n nq Mr f qr V ∧ (∀ x, (Mr x).isSome = (M x).isSome) ∧ Kp [bM, bQ] w wr))
      case atStart => exact ⟨0, rfl, by omega, by omega, M, q, HR.out, HS1.out, fun _ => rfl, HK1.out⟩
      case round =>
        clear HR HS1 HK1
        obtain ⟨i, rfl, hi1, rfl, HRR⟩ := hrel
        by_cases hi : i < l.length
        · have hi' : (i : Int) < l.length := by omega
          obtain ⟨b, o, k2, n2, s2, e2, l2, p2, cap2, rfl, hli, g0, g1, g2, g3, g4, hbw, hty⟩ := Hel.out i hi
          obtain ⟨Mr, qr, r1, r3, r4, r5⟩ := HRR.out
          clear HRR
          have hb := r3.sv.base
          rw [← hb.cell (p := ⟨b, o + i * 5, none⟩) hbw] at g0
          rw [← hb.cell (p := ⟨b, o + i * 5 + 1, none⟩) hbw] at g1
          rw [← hb.cell (p := ⟨b, o + i * 5 + 2, none⟩) hbw] at g2
          rw [← hb.cell (p := ⟨b, o + i * 5 + 3, none⟩) hbw] at g3
          rw [← hb.cell (p := ⟨b, o + i * 5 + 4, none⟩) hbw] at g4
          have hbr := Nat.lt_of_lt_of_le hbw hb.size
          have hsh2 := okm_arg Hsh.out i hi
          have hh := Hh.out i hi
          have hst : R = if (((l[i]'hi).app f).cmp qr).1 = true then Ty.cmpL ((l.map (Ty.app f)).drop (i + 1)) (((l[i]'hi).app f).cmp qr).2 else (false, (((l[i]'hi).app f).cmp qr).2) := by
            rw [← r1, Ty.cmpL_step _ i (by simpa using hi), List.getElem_map]
          have hvv : ∀ x, ((l[i]'hi).app f).hasV x = true → V.contains x = true := by
            intro x hx
            refine HV.out x ?_
            rw [Ty.hasV_mk H0.out, List.any_eq_true]
            exact ⟨_, List.mem_map.2 ⟨_, List.getElem_mem hi, rfl⟩, hx⟩
          have hka : Kp [] wr (wr.alloc (Obj.cells #[Value.int IntKind.i64 k2, Value.int IntKind.i64 n2, Value.string s2, Value.int IntKind.i64 e2, Value.slice p2 l2.length cap2] 33)) := Kp.alloc _ _ _
          have hcall := hh _ Mr qr k2 n2 s2 e2 l2 p2 cap2 hli (r3.kp hka (by simp)) (hli ▸ hty) hsh2 hvv
          unfold cmpArgs at hcall
          have Hcall : Hid _ := hcall
          have R4 : Hid (∀ x, (Mr x).isSome = (M x).isSome) := r4
          have R5 : Hid (Kp [bM, bQ] w (wr.alloc (Obj.cells #[Value.int IntKind.i64 k2, Value.int IntKind.i64 n2, Value.string s2, Value.int IntKind.i64 e2, Value.slice p2 l2.length cap2] 33))) := r5.trans (hka.mono (by simp))
          generalize ((l[i]'hi).app f).cmp qr = C at *
          obtain ⟨c, q7⟩ := C
          have Hst : Hid (R = if c = true then Ty.cmpL ((l.map (Ty.app f)).drop (i + 1)) q7 else (false, q7)) := hst
          clear hcall r1 r3 r4 r5 hsh2 hty hli hb hh hst hvv hka
          go_wp2_with fail
          refine Calls.mono Hcall.out ?_
          rintro e10 w6 ⟨rfl, hp⟩
          have Hp : Hid (SqPost μ wb sp bM bQ n nq f V w M [bM, bQ] q7 w6) := SqPost.trans R5.out R4.out hp
          clear hp Hcall g0 g1 g2 g3 g4
          cases c with
          | true =>
            have Hst2 : Hid (R = Ty.cmpL ((l.map (Ty.app f)).drop (i + 1)) q7) := by have := Hst.out; rw [if_pos rfl] at this; exact this
            clear Hst
            go_wp2
            go_roundg (l.length - (i + 1))
            case measure => omega
            case rel =>
              cases Hp.out with
              | mk M6 q1 q2 q3 => exact ⟨i + 1, by first | rfl | (congr 1; omega) | go_num, by omega, rfl, M6, q7, Hst2.out.symm, q1, q2, q3⟩
          | false =>
            have Hst2 : Hid (R = (false, q7)) := by have := Hst.out; rw [if_neg (by simp)] at this; exact this
            clear Hst
            go_wp2
            go_ret
            rw [Hst2.out]
            exact ⟨rfl, Hp.out⟩
        · have hi' : ¬ (i : Int) < l.length := by omega
          go_wp2
          go_ret
          obtain ⟨Mr, qr, r1, r3, r4, r5⟩ := HRR.out
          rw [List.drop_of_length_le (by simp; omega)] at r1
          unfold Ty.cmpL at r1
          subst r1
          exact ⟨rfl, SqPost.mk Mr r3 r4 r5⟩
end Go.Proofs.Ytbgpjaniohpfaaa
