/-
  A type with all its variables replaced, in new memory (eachAnew, replace).
-/
import Derived.Test.YtbgpjaniohpfaaaK12
import Derived.Test.YtbgpjaniohpfaaaK11
namespace Go.Proofs.Ytbgpjaniohpfaaa
open Go.RowKit Go.Deep
variable {μ : Marks}
/-- Variables with what is known of them. -/
def mkv (q : Int → Int) : Int → Ty := fun n => .mk 0 n { data := #[] } (q n) []
theorem infos33 : (Try.prog.info? 33).map (fun i => (i.zero, i.size, i.bytes)) = some (some (.agg #[.int .i64 0, .int .i64 0, .string { data := #[] }, .int .i64 0, .slice none 0 0]), 5, 64) := by kernel_rfl
theorem slice31 : Try.prog.underlying 31 = some (.slice 33) := by kernel_rfl
inductive ReplPost (μ : Marks) (wb : World) (sp bM bQ n nq : Nat) (f : Int → Ty) (q : Int → Int) (V : List Int) (T : Ty) (w : World) (M : Int → Option Ty) (e' : Ending) (w' : World) : Prop
  | mk (k m : Int) (s : ByteArray) (e : Int) (l : List Ty) (p : Option Addr) (cap : Nat) (he : e' = .returned (.agg #[.int .i64 k, .int .i64 m, .string s, .int .i64 e, .slice p l.length cap])) (hT : (T.app f).app (mkv q) = .mk k m s e l)
      (hA : TyAt (fun b => w.heap.size ≤ b) w' [.int .i64 k, .int .i64 m, .string s, .int .i64 e, .slice p l.length cap] (.mk k m s e l)) (hP : SqPost μ wb sp bM bQ n nq f V w M [bM] q w') : ReplPost μ wb sp bM bQ n nq f q V T w M e' w'
theorem tyIn_name {w : World} {k n : Int} {s : ByteArray} {e : Int} {l : List Ty} {cs : List Value} (h : TyIn w cs (.mk k n s e l)) : s.size ≤ maxLen := by
  cases h with
  | mk _ _ _ _ _ _ _ _ _ _ hp hw hc hr => exact hw.2.2.2.1
/-- What is asked of replace at one type. -/
def ReplAt (μ : Marks) (wb : World) (sp bM bQ n nq : Nat) (f : Int → Ty) (q : Int → Int) (V : List Int) (T : Ty) : Prop :=
  ∀ (w : World) (M : Int → Option Ty) (k m : Int) (s : ByteArray) (e : Int) (l : List Ty) (p : Option Addr) (cap : Nat), T = .mk k m s e l → Sq μ wb w sp bM bQ n nq M f q V → TyIn wb [.int .i64 k, .int .i64 m, .string s, .int .i64 e, .slice p l.length cap] (.mk k m s e l) → T.okm μ →
    Calls Try.prog 34 #[.pointer (some ⟨sp, 0, none⟩), .agg #[.int .i64 k, .int .i64 m, .string s, .int .i64 e, .slice p l.length cap]] w fun e' w' => ReplPost μ wb sp bM bQ n nq f q V T w M e' w'
theorem ReplPost.ret {wb : World} {sp bM bQ n nq : Nat} {f : Int → Ty} {q : Int → Int} {V : List Int} {T : Ty} {w : World} {M : Int → Option Ty} {e' : Ending} {w' : World} (h : ReplPost μ wb sp bM bQ n nq f q V T w M e' w') : ∃ k m s e l p cap, e' = .returned (.agg #[.int .i64 k, .int .i64 m, .string s, .int .i64 e, .slice p (l : List Ty).length cap]) ∧ (T.app f).app (mkv q) = .mk k m s e l ∧
    TyAt (fun b => w.heap.size ≤ b) w' [.int .i64 k, .int .i64 m, .string s, .int .i64 e, .slice p l.length cap] (.mk k m s e l) ∧ SqPost μ wb sp bM bQ n nq f V w M [bM] q w' := by
  cases h with
  | mk k m s e l p cap he hT hA hP => exact ⟨k, m, s, e, l, p, cap, he, hT, hA, hP⟩
theorem cells5_new (w : World) (c0 c1 c2 c3 c4 : Value) (t : TypeId) : ∀ j u, [c0, c1, c2, c3, c4][j]? = some u → (w.alloc (.cells #[c0, c1, c2, c3, c4] t)).cell? ((⟨w.heap.size, 0, none⟩ : Addr).add j) = some u := by
  intro j u hj
  have hlt : j < 5 := by
    have := (List.getElem?_eq_some_iff.1 hj).1
    simpa using this
  match j, hlt, hj with
  | 0, _, hj => simp at hj; subst hj; simp [Addr.add]
  | 1, _, hj => simp at hj; subst hj; simp [Addr.add]
  | 2, _, hj => simp at hj; subst hj; simp [Addr.add]
  | 3, _, hj => simp at hj; subst hj; simp [Addr.add]
  | 4, _, hj => simp at hj; subst hj; simp [Addr.add]
theorem one5_mem (k m : Int) (s : ByteArray) (e : Int) (p : Option Addr) (n cap : Nat) : ∀ u ∈ [Value.int .i64 k, .int .i64 m, .string s, .int .i64 e, .slice p n cap], u.oneCell' = true := by
  intro u hu
  simp only [List.mem_cons, List.not_mem_nil, or_false] at hu
  rcases hu with rfl | rfl | rfl | rfl | rfl <;> rfl
/-- What is left where each of some types was made anew. -/
inductive AnewPost (μ : Marks) (wb : World) (sp bM bQ n nq : Nat) (f : Int → Ty) (q : Int → Int) (V : List Int) (l : List Ty) (w : World) (M : Int → Option Ty) (e' : Ending) (w' : World) : Prop
  | mk (v : Value) (L : List (List Value × Ty)) (he : e' = .returned v) (hL : L.map (·.2) = l.map (fun T => (T.app f).app (mkv q))) (ho : w'.ownsRow w.heap.size 33 5 v L.length (rowCells L)) (hT : TysAt (fun b => w.heap.size ≤ b ∧ some b ≠ v.ownBlock) w' L) (hP : SqPost μ wb sp bM bQ n nq f V w M [bM] q w') : AnewPost μ wb sp bM bQ n nq f q V l w M e' w'
set_option maxHeartbeats 4000000 in
set_option maxRecDepth 100000 in
theorem anew_any {wb : World} {sp bM bQ n nq : Nat} {f : Int → Ty} {q : Int → Int} {V : List Int} {k m : Int} {s : ByteArray} {e : Int} {l : List Ty} {p : Option Addr} {cap : Nat} (h : ∀ i (hi : i < l.length), ReplAt μ wb sp bM bQ n nq f q V (l[i]'hi)) (hl : l.length ≤ 400) (w : World) (M : Int → Option Ty) (hS : Sq μ wb w sp bM bQ n nq M f q V)
    (hT : TyIn wb [.int .i64 k, .int .i64 m, .string s, .int .i64 e, .slice p l.length cap] (.mk k m s e l)) (hs : (Ty.mk k m s e l).okm μ) :
    Calls Try.prog 46 #[.slice p l.length cap, .func (Fn.func 34) #[.pointer (some ⟨sp, 0, none⟩)] #[]] w fun e' w' => AnewPost μ wb sp bM bQ n nq f q V l w M e' w' := by
  obtain ⟨i0, hi0, hzz0, hzz1, hzz2⟩ := info_parts infos33
  have hlt := hS.lt
  obtain ⟨pp, cp, hcs, hl1, hl2, hel⟩ := hT.elem
  obtain ⟨rfl, rfl⟩ : p = pp ∧ cap = cp := by simpa using hcs
  have Hel : Hid _ := hel
  have Hh : Hid (∀ i (hi : i < l.length), ReplAt μ wb sp bM bQ n nq f q V (l[i]'hi)) := h
  have Hs : Hid ((Ty.mk k m s e l).okm μ) := hs
  have HS : Hid (Sq μ wb w sp bM bQ n nq M f q V) := hS
  unfold maxLen at hl1
  clear hel hT hcs h hs hS
  go_enter Try.func46, Try.ntmps46
  go_wp2_with fail
  go_loopg [5, 10] l.length (fun g v0 iv wr => ∃ (i : Nat) (v : Value), v = v0 ∧ iv = .int .i64 i ∧ i ≤ l.length ∧ g = l.length - i ∧ Hid (∃ (L : List (List Value × Ty)), L.length = i ∧ L.map (·.2) = (l.take i).map (fun T => (T.app f).app (mkv q)) ∧ wr.ownsRow w.heap.size 33 5 v L.length (rowCells L) ∧ TysAt (fun b => w.heap.size ≤ b ∧ some b ≠ v.ownBlock) wr L ∧ SqPost μ wb sp bM bQ n nq f V w M [bM] q wr))
  case atStart => exact ⟨0, _, rfl, rfl, by omega, by omega, [], rfl, rfl, World.ownsRow_nil _ _ _ _, (fun x hx => by cases hx), SqPost.mk M HS.out (fun _ => rfl) (Kp.refl _ _)⟩
  case round =>
    clear HS
    obtain ⟨i, v5, hv5, rfl, hi1, rfl, HR⟩ := hrel
    subst hv5
    by_cases hi : i < l.length
    · have hi' : (i : Int) < l.length := by omega
      obtain ⟨b, o, k2, n2, s2, e2, l2, p2, cap2, rfl, hli, g0, g1, g2, g3, g4, hbw, hty⟩ := Hel.out i hi
      obtain ⟨L, r1, r2, r3, r4, r5⟩ := HR.out
      cases r5 with
      | mk Mr t1 t2 t3 =>
      clear HR
      have hb := t1.base
      rw [← hb.cell (p := ⟨b, o + i * 5, none⟩) hbw] at g0
      rw [← hb.cell (p := ⟨b, o + i * 5 + 1, none⟩) hbw] at g1
      rw [← hb.cell (p := ⟨b, o + i * 5 + 2, none⟩) hbw] at g2
      rw [← hb.cell (p := ⟨b, o + i * 5 + 3, none⟩) hbw] at g3
      rw [← hb.cell (p := ⟨b, o + i * 5 + 4, none⟩) hbw] at g4
      have hbr := Nat.lt_of_lt_of_le hbw hb.size
      have hsh2 := okm_arg Hs.out i hi
      have hh := Hh.out i hi
      have htk : (l.take (i + 1)).map (fun T => (T.app f).app (mkv q)) = (l.take i).map (fun T => (T.app f).app (mkv q)) ++ [((l[i]'hi).app f).app (mkv q)] := by
        rw [List.take_succ_eq_append_getElem hi, List.map_append]
        rfl
      rw [hli] at hsh2 hty hh htk
      have hka : Kp [] wr (wr.alloc (Obj.cells #[Value.int IntKind.i64 k2, Value.int IntKind.i64 n2, Value.string s2, Value.int IntKind.i64 e2, Value.slice p2 l2.length cap2] 33)) := Kp.alloc _ _ _
      have hcall := hh _ Mr k2 n2 s2 e2 l2 p2 cap2 rfl (t1.kp hka (by simp)) hty hsh2
      have Hcall : Hid _ := hcall
      have T2 : Hid (∀ x, (Mr x).isSome = (M x).isSome) := t2
      have T3 : Hid (Kp [bM] w wr) := t3
      have R1 : Hid (L.length = i) := r1
      have R2 : Hid (L.map (·.2) = (l.take i).map (fun T => (T.app f).app (mkv q))) := r2
      have R3 : Hid (wr.ownsRow w.heap.size 33 5 v5 L.length (rowCells L)) := r3
      have R4 : Hid (TysAt (fun b => w.heap.size ≤ b ∧ some b ≠ v5.ownBlock) wr L) := r4
      have Htk : Hid ((l.take (i + 1)).map (fun T => (T.app f).app (mkv q)) = (l.take i).map (fun T => (T.app f).app (mkv q)) ++ [((Ty.mk k2 n2 s2 e2 l2).app f).app (mkv q)]) := htk
      clear hcall t1 t2 t3 r1 r2 r3 r4 hsh2 hty hli hb hh htk hka
      go_wp2_with fail
      refine Calls.mono Hcall.out ?_
      rintro e10 w6 hp
      obtain ⟨k3, m3, s3, e3, l3, p3, cap3, rfl, hT3, hA3, hP3⟩ := hp.ret
      clear hp Hcall g0 g1 g2 g3 g4
      cases hP3 with
      | mk M6 u1 u2 u3 =>
      have hwr : w.heap.size ≤ wr.heap.size := T3.out.size
      have hrow6 : w6.ownsRow w.heap.size 33 5 v5 L.length (rowCells L) := ownsRow.kp (ownsRow.kp R3.out (Kp.alloc [] _ _) (by simp)) u3 (fun g hg => by have := R3.out.lt g hg; simp <;> omega)
      have hlen := R1.out
      have HT3 : Hid _ := hT3
      have HA3 : Hid _ := hA3
      have U1 : Hid _ := u1
      have U2 : Hid (∀ x, (M6 x).isSome = (Mr x).isSome) := u2
      have U3 : Hid _ := u3
      clear hT3 hA3 u1 u2 u3
      have hb6 : w.heap.size ≤ w6.heap.size := Nat.le_trans hwr (Nat.le_trans (by simp) (Kp.size U3.out))
      have Hlen : Hid (L.length = i) := hlen
      have hll : L.length + 1 ≤ 400 := by omega
      clear hlen
      go_wp2_with (at_builtin; refine wpList_append_own_at _ rfl _ _ 31 rfl w.heap.size 33 i0 (.agg #[.int .i64 0, .int .i64 0, .string { data := #[] }, .int .i64 0, .slice none 0 0]) 5 64 slice31 hi0 hzz0 hzz1 hzz2 rfl (by decide) _ _ _ rfl (hrow6.alloc _) ⟨w6.heap.size, 0, none⟩ 1 1 [.int .i64 k3, .int .i64 m3, .string s3, .int .i64 e3, .slice p3 l3.length cap3] rfl rfl ?cc ?oc (by unfold maxLen; omega) (by omega) (by simp; omega) ?_)
      case cc => exact cells5_new _ _ _ _ _ _ _
      case oc => exact one5_mem _ _ _ _ _ _ _
      intro v' w7 ho7 hg7 _ hat7
      have hz6 : wr.heap.size < w6.heap.size := Nat.lt_of_lt_of_le (by simp) (Kp.size U3.out)
      have hv5 : ∀ g, v5.ownBlock = some g → w.heap.size ≤ g ∧ g < wr.heap.size := fun g hg => R3.out.lt g hg
      have hTs : TysAt (fun b => w.heap.size ≤ b ∧ some b ≠ v'.ownBlock) w7 (L ++ [([.int .i64 k3, .int .i64 m3, .string s3, .int .i64 e3, .slice p3 l3.length cap3], .mk k3 m3 s3 e3 l3)]) := by
        refine TysAt.append (w := wr) (w2 := w6) R4.out (TyAt.keep HA3.out fun b hb _ => ⟨rfl, by have := heap_size_alloc wr (Obj.cells #[Value.int IntKind.i64 k2, Value.int IntKind.i64 n2, Value.string s2, Value.int IntKind.i64 e2, Value.slice p2 l2.length cap2] 33); omega⟩) hwr (fun g hg => (hv5 g hg).2) ?_ (Nat.le_of_lt hz6) ((Below.refl _ _).alloc (Nat.le_refl _) _) hg7 (by rw [heap_size_alloc]; exact hat7)
        intro b hb1 hb2
        rw [Kp.block U3.out b (by simp; omega) (by simp; omega)]
        exact Below.heap_alloc _ _ _ hb2
      have hk7 : Kp [bM] w w7 := by
        have h1 : Kp [bM] w w6 := T3.out.trans ((Kp.alloc _ _ _).trans U3.out)
        exact h1.then ((Kp.alloc (v5.ownBlock.toList) w6 _).trans (Kp.of_grown hg7 (by intro k hk; rw [hk]; simp))) (by intro y hy; right; exact (hv5 y (by simpa using hy)).1)
      have hSq7 : Sq μ wb w7 sp bM bQ n nq M6 f q V := by
        refine Sq.kp U1.out ((Kp.alloc (v5.ownBlock.toList) w6 _).trans (Kp.of_grown hg7 (by intro k hk; rw [hk]; simp))) ⟨?_, ?_, ?_, ?_⟩
        · intro hy; have : v5.ownBlock = some sp := by simpa using hy
          have := (hv5 _ this).1; omega
        · intro hy; have : v5.ownBlock = some bM := by simpa using hy
          have := (hv5 _ this).1; omega
        · intro hy; have : v5.ownBlock = some bQ := by simpa using hy
          have := (hv5 _ this).1; omega
        · intro y hy; have : v5.ownBlock = some y := by simpa using hy
          have := (hv5 _ this).1; omega
      have Q : Hid (∃ (L : List (List Value × Ty)), L.length = i + 1 ∧ L.map (·.2) = (l.take (i + 1)).map (fun T => (T.app f).app (mkv q)) ∧ w7.ownsRow w.heap.size 33 5 v' L.length (rowCells L) ∧ TysAt (fun b => w.heap.size ≤ b ∧ some b ≠ v'.ownBlock) w7 L ∧ SqPost μ wb sp bM bQ n nq f V w M [bM] q w7) := by
        refine ⟨_, by simp; exact Hlen.out, ?_, ?_, hTs, SqPost.mk M6 hSq7 (fun x => (U2.out x).trans (T2.out x)) hk7⟩
        · rw [List.map_append, Htk.out, R2.out, HT3.out]
          rfl
        · rw [rowCells_snoc, List.length_append]
          exact ho7
      clear ho7 hg7 hat7 hTs hk7 hSq7 hrow6 HA3 HT3 U1 U2 U3 R1 R2 R3 R4 Htk T2 T3
      go_wp2
      go_roundg (l.length - (i + 1))
      case measure => omega
      case rel => exact ⟨i + 1, _, rfl, by first | rfl | (congr 1; omega) | go_num, by omega, rfl, Q⟩
    · have hi' : ¬ (i : Int) < l.length := by omega
      go_wp2
      go_ret
      obtain ⟨L, r1, r2, r3, r4, r5⟩ := HR.out
      rw [List.take_of_length_le (by omega)] at r2
      exact AnewPost.mk _ L rfl r2 r3 r4 r5
set_option maxHeartbeats 4000000 in
set_option maxRecDepth 100000 in
theorem replace_any (wb : World) (sp bM bQ n nq : Nat) (f : Int → Ty) (q : Int → Int) (V : List Int) : ∀ (N : Nat) (T : Ty), (T.app f).count ≤ N → (T.app f).count ≤ 400 → ReplAt μ wb sp bM bQ n nq f q V T := by
  intro N
  induction N with
  | zero => intro T hN; have := Full.count_pos (T.app f); omega
  | succ N ih =>
    intro T hN h400 w M k m s e l p cap hTe hS hT hsh
    subst hTe
    have Hih : Hid _ := ih
    have HT : Hid (TyIn wb [.int .i64 k, .int .i64 m, .string s, .int .i64 e, .slice p l.length cap] (.mk k m s e l)) := hT
    have Hsh : Hid ((Ty.mk k m s e l).okm μ) := hsh
    have HS : Hid (Sq μ wb w sp bM bQ n nq M f q V) := hS
    have HN : Hid (((Ty.mk k m s e l).app f).count ≤ N + 1) := hN
    have H400 : Hid (((Ty.mk k m s e l).app f).count ≤ 400) := h400
    have hlt := hS.lt
    have hk2 : Kp [] w ((w.alloc (Obj.cells #[Value.int IntKind.i64 k, Value.int IntKind.i64 m, Value.string s, Value.int IntKind.i64 e, Value.slice p l.length cap] 33)).alloc (Obj.cells #[Value.int IntKind.i64 0, Value.int IntKind.i64 0, Value.string { data := #[] }, Value.int IntKind.i64 0, Value.slice none 0 0] 33)) := (Kp.alloc _ _ _).trans (Kp.alloc _ _ _)
    have hA2 := (Box.new w (.int .i64 k) (.int .i64 m) (.string s) (.int .i64 e) (.slice p l.length cap)).kp (Kp.alloc [] _ (Obj.cells #[Value.int IntKind.i64 0, Value.int IntKind.i64 0, Value.string { data := #[] }, Value.int IntKind.i64 0, Value.slice none 0 0] 33)) (by simp)
    have hR2 := Box.new (w.alloc (Obj.cells #[Value.int IntKind.i64 k, Value.int IntKind.i64 m, Value.string s, Value.int IntKind.i64 e, Value.slice p l.length cap] 33)) (.int .i64 0) (.int .i64 0) (.string { data := #[] }) (.int .i64 0) (.slice none 0 0)
    rw [heap_size_alloc] at hR2
    have hS2 := hS.kp hk2 (by simp)
    generalize hX : (Ty.mk k m s e l).app f = X at *
    have HX : Hid ((Ty.mk k m s e l).app f = X) := hX
    clear ih hN h400 hS hT hsh hX
    go_enter Try.func34, Try.ntmps34
    go_wp2_with fail
    generalize (w.alloc (Obj.cells #[Value.int IntKind.i64 k, Value.int IntKind.i64 m, Value.string s, Value.int IntKind.i64 e, Value.slice p l.length cap] 33)).alloc (Obj.cells #[Value.int IntKind.i64 0, Value.int IntKind.i64 0, Value.string { data := #[] }, Value.int IntKind.i64 0, Value.slice none 0 0] 33) = w2 at *
    refine (top_any wb w2 sp bM n M f k m s e l p cap hS2.sv HT.out Hsh.out).mono ?_
    rintro e9 w5 ⟨k', m', s', e1, l', p', cap', M', rfl, hT', hS', hF', hfree', hdom', hsv', hk'⟩
    rw [HX.out] at hF'
    have PX : Hid ((k' = 0 ∧ l' = [] ∧ X = .vr m') ∨ (¬ k' = 0 ∧ X = .mk k' m' s' e1 (l'.map (Ty.app f)))) := Full.top_parts hsv'.agr hF' hfree' hS'
    have HS5 : Hid (Sq μ wb w5 sp bM bQ n nq M' f q V) := hS2.after hsv' hk'
    have HK5 : Hid (Kp [bM] w w5) := (hk2.mono (by simp)).trans hk'
    have HA5 : Hid (Box w5 w.heap.size (.int .i64 k) (.int .i64 m) (.string s) (.int .i64 e) (.slice p l.length cap)) := hA2.kp hk' (by simp <;> omega)
    have HR5 : Hid (Box w5 (w.heap.size + 1) (.int .i64 0) (.int .i64 0) (.string { data := #[] }) (.int .i64 0) (.slice none 0 0)) := hR2.kp hk' (by simp <;> omega)
    have HT' : Hid (TyIn wb [.int .i64 k', .int .i64 m', .string s', .int .i64 e1, .slice p' l'.length cap'] (.mk k' m' s' e1 l')) := hT'
    have HS' : Hid ((Ty.mk k' m' s' e1 l').okm μ) := hS'
    have HD : Hid (∀ x, (M' x).isSome = (M x).isSome) := hdom'
    clear hT' hS' hF' hfree' hdom' hsv' hk' hA2 hR2 hS2 hk2 HS HT Hsh
    by_cases hk0 : k' = 0
    · have hx : X = .vr m' := by
        rcases PX.out with ⟨_, _, h⟩ | ⟨h, _⟩
        · exact h
        · exact absurd hk0 h
      have Hx : Hid (X = .vr m') := hx
      have hk0' : (k' == 0) = true := by simpa using hk0
      have Hk0okm : Hid ((Ty.mk 0 m' s' e1 l').okm μ) := by have := HS'.out; rw [hk0] at this; exact this
      have hwf := (shaped_wf HT'.out).2.1
      clear hx hk0
      go_wp2_with (refine wpList_store5 rfl _ _ rfl rfl _ rfl rfl HA5.out (one5 _ _ _ _ _ _ _) ?_; intro w6 hC6 hk6; obtain ⟨x0, x1, x2, x3, x4⟩ := hC6.cells)
      have hS6 : Sq μ wb w6 sp bM bQ n nq M' f q V := HS5.out.kp hk6 ⟨by simp <;> omega, by simp <;> omega, by simp <;> omega, by simp <;> omega⟩
      have hR6 := HR5.out.kp hk6 (by simp <;> omega)
      have hc1 := hS6.cell
      have hlk := hS6.drew.map.look hwf
      obtain ⟨z0, z1, z2, z3, z4⟩ := hR6.cells
      have fr0 := hR6.frozen 0
      have fr1 := hR6.frozen 1
      have fr2 := hR6.frozen 2
      have fr3 := hR6.frozen 3
      have fr4 := hR6.frozen 4
      have HS6 : Hid _ := hS6
      have HR6 : Hid _ := hR6
      have HK6 : Hid (Kp [bM] w w6) := HK5.out.then hk6 (by simp)
      have hq01 : (Lit.int .i64 (q m')).wf = true := by
        obtain ⟨G, _, hG⟩ := hS6.map
        rcases (hG m').2.2 with h | h <;> rw [h] <;> decide
      have hlow : e1 ≤ q m' := Sq.low HS5.out m' s' e1 l' Hk0okm.out
      have hb1 := okm_bit Hk0okm.out
      obtain ⟨c, hc⟩ : ∃ c, q m' = c := ⟨_, rfl⟩
      have Hc : Hid (q m' = c) := hc
      have hc01 : c = 0 ∨ c = 1 := by
        obtain ⟨G, _, hG⟩ := hS6.map
        rw [← hc]
        exact (hG m').2.2
      rw [hc] at hlk hq01 hlow
      have hcase : (e1 = 0 ∧ c = 0) ∨ (e1 = 0 ∧ c = 1) ∨ (e1 = 1 ∧ c = 1) := by omega
      clear hS6 hR6 hk6 hC6 hc hlow hb1 hc01
      rcases hcase with ⟨rfl, rfl⟩ | ⟨rfl, rfl⟩ | ⟨rfl, rfl⟩
      · go_region
        go_wp2
        have hRF : Box (((((w6.setCell ⟨w.heap.size + 1, 0, none⟩ (.int .i64 0)).setCell ⟨w.heap.size + 1, 1, none⟩ (.int .i64 m')).setCell ⟨w.heap.size + 1, 2, none⟩ (.string { data := #[] })).setCell ⟨w.heap.size + 1, 3, none⟩ (.int .i64 0)).setCell ⟨w.heap.size + 1, 4, none⟩ (.slice none 0 0)) (w.heap.size + 1) (.int .i64 0) (.int .i64 m') (.string { data := #[] }) (.int .i64 0) (.slice none 0 0) := Box.setCells HR6.out _ _ _ _ _
        have hKF := Box.setKp w6 (w.heap.size + 1) (.int .i64 0) (.int .i64 m') (.string { data := #[] }) (.int .i64 0) (.slice none 0 0)
        obtain ⟨v0, v1, v2, v3, v4⟩ := hRF.cells
        refine bodyPost_ret (v := .agg #[.int .i64 0, .int .i64 m', .string { data := #[] }, .int .i64 0, .slice none 0 0]) (by simp [results, Try.results34, go_sem, v0, v1, v2, v3, v4]) rfl (ReplPost.mk 0 m' { data := #[] } 0 [] none 0 rfl ?_ (TyAt.leaf _ _ (by decide) hwf hq01 (by decide)) (SqPost.mk M' (Sq.drew (Sq.kp HS6.out hKF ⟨by simp <;> omega, by simp <;> omega, by simp <;> omega, by simp <;> omega⟩)) HD.out (Kp.drew (HK6.out.then hKF (by simp)))))
        rw [HX.out, Hx.out, Ty.app_vr]
        show Ty.mk 0 m' { data := #[] } (q m') [] = _
        rw [Hc.out]
      · go_region
        go_wp2
        have hRF : Box (((((w6.setCell ⟨w.heap.size + 1, 0, none⟩ (.int .i64 0)).setCell ⟨w.heap.size + 1, 1, none⟩ (.int .i64 m')).setCell ⟨w.heap.size + 1, 2, none⟩ (.string { data := #[] })).setCell ⟨w.heap.size + 1, 3, none⟩ (.int .i64 1)).setCell ⟨w.heap.size + 1, 4, none⟩ (.slice none 0 0)) (w.heap.size + 1) (.int .i64 0) (.int .i64 m') (.string { data := #[] }) (.int .i64 1) (.slice none 0 0) := Box.setCells HR6.out _ _ _ _ _
        have hKF := Box.setKp w6 (w.heap.size + 1) (.int .i64 0) (.int .i64 m') (.string { data := #[] }) (.int .i64 1) (.slice none 0 0)
        obtain ⟨v0, v1, v2, v3, v4⟩ := hRF.cells
        refine bodyPost_ret (v := .agg #[.int .i64 0, .int .i64 m', .string { data := #[] }, .int .i64 1, .slice none 0 0]) (by simp [results, Try.results34, go_sem, v0, v1, v2, v3, v4]) rfl (ReplPost.mk 0 m' { data := #[] } 1 [] none 0 rfl ?_ (TyAt.leaf _ _ (by decide) hwf hq01 (by decide)) (SqPost.mk M' (Sq.drew (Sq.kp HS6.out hKF ⟨by simp <;> omega, by simp <;> omega, by simp <;> omega, by simp <;> omega⟩)) HD.out (Kp.drew (HK6.out.then hKF (by simp)))))
        rw [HX.out, Hx.out, Ty.app_vr]
        show Ty.mk 0 m' { data := #[] } (q m') [] = _
        rw [Hc.out]
      · go_region
        go_wp2
        have hRF : Box (((((w6.setCell ⟨w.heap.size + 1, 0, none⟩ (.int .i64 0)).setCell ⟨w.heap.size + 1, 1, none⟩ (.int .i64 m')).setCell ⟨w.heap.size + 1, 2, none⟩ (.string { data := #[] })).setCell ⟨w.heap.size + 1, 3, none⟩ (.int .i64 1)).setCell ⟨w.heap.size + 1, 4, none⟩ (.slice none 0 0)) (w.heap.size + 1) (.int .i64 0) (.int .i64 m') (.string { data := #[] }) (.int .i64 1) (.slice none 0 0) := Box.setCells HR6.out _ _ _ _ _
        have hKF := Box.setKp w6 (w.heap.size + 1) (.int .i64 0) (.int .i64 m') (.string { data := #[] }) (.int .i64 1) (.slice none 0 0)
        obtain ⟨v0, v1, v2, v3, v4⟩ := hRF.cells
        refine bodyPost_ret (v := .agg #[.int .i64 0, .int .i64 m', .string { data := #[] }, .int .i64 1, .slice none 0 0]) (by simp [results, Try.results34, go_sem, v0, v1, v2, v3, v4]) rfl (ReplPost.mk 0 m' { data := #[] } 1 [] none 0 rfl ?_ (TyAt.leaf _ _ (by decide) hwf hq01 (by decide)) (SqPost.mk M' (Sq.drew (Sq.kp HS6.out hKF ⟨by simp <;> omega, by simp <;> omega, by simp <;> omega, by simp <;> omega⟩)) HD.out (Kp.drew (HK6.out.then hKF (by simp)))))
        rw [HX.out, Hx.out, Ty.app_vr]
        show Ty.mk 0 m' { data := #[] } (q m') [] = _
        rw [Hc.out]
    · have hx : X = .mk k' m' s' e1 (l'.map (Ty.app f)) := by
        rcases PX.out with ⟨h, _⟩ | ⟨_, h⟩
        · exact absurd h hk0
        · exact h
      have hcnt : X.count = 1 + Ty.countL (l'.map (Ty.app f)) := by rw [hx]; unfold Ty.count; rfl
      have hmem := fun i (hi : i < l'.length) => by
        have h1 := Ty.countL_mem (l'.map (Ty.app f)) i (by simpa using hi)
        rw [List.getElem_map] at h1
        exact h1
      have hin : ∀ i (hi : i < l'.length), ReplAt μ wb sp bM bQ n nq f q V (l'[i]'hi) := by
        intro i hi
        have h1 := hmem i hi
        have h2 := HN.out
        have h3 := H400.out
        exact Hih.out _ (by omega) (by omega)
      have hlen : l'.length ≤ 400 := by
        have h1 : ∀ r : List Ty, r.length ≤ Ty.countL r := by
          intro r
          induction r with
          | nil => exact Nat.zero_le _
          | cons a r ih =>
            have := Full.count_pos a
            unfold Ty.countL
            simp only [List.length_cons]
            omega
        have h2 := h1 (l'.map (Ty.app f))
        rw [List.length_map] at h2
        have h3 := H400.out
        omega
      have hX2 : X.app (mkv q) = .mk k' m' s' e1 (l'.map (fun T => (T.app f).app (mkv q))) := by
        rw [hx, Ty.app_mk hk0, List.map_map]
        rfl
      have HX2 : Hid (X.app (mkv q) = .mk k' m' s' e1 (l'.map (fun T => (T.app f).app (mkv q)))) := hX2
      have Hin : Hid (∀ i (hi : i < l'.length), ReplAt μ wb sp bM bQ n nq f q V (l'[i]'hi)) := hin
      have hk0' : (k' == 0) = false := by simpa using hk0
      have hwk := shaped_wf HT'.out
      have hss : s'.size ≤ maxLen := tyIn_name HT'.out
      have Hwk : Hid _ := hwk
      have Hss : Hid (s'.size ≤ maxLen) := hss
      clear hx hcnt hmem hin hX2 hk0 hwk hss
      go_wp2_with (refine wpList_store5 rfl _ _ rfl rfl _ rfl rfl HA5.out (one5 _ _ _ _ _ _ _) ?_; intro w6 hC6 hk6; obtain ⟨x0, x1, x2, x3, x4⟩ := hC6.cells)
      have hS6 : Sq μ wb w6 sp bM bQ n nq M' f q V := HS5.out.kp hk6 ⟨by simp <;> omega, by simp <;> omega, by simp <;> omega, by simp <;> omega⟩
      refine (anew_any Hin.out hlen w6 M' hS6 HT'.out HS'.out).mono ?_
      rintro e10 w7 hp
      cases hp with
      | mk v L he hL ho hTs hP =>
      cases hP with
      | mk M7 hS7 hd7 hk7 =>
      have hz6 := hC6.lt
      have hz6' := (HR5.out.kp hk6 (by simp <;> omega)).lt
      have hTs' : TysAt (fun b => w6.heap.size ≤ b) w7 L := fun y hy => (hTs y hy).keep fun b hb _ => ⟨rfl, hb.1⟩
      obtain ⟨pr, capr, hv, hTy⟩ := row_type ho hTs' (fun g hg => (ho.lt g hg).1) Hwk.out.1 Hwk.out.2.1 Hwk.out.2.2 Hss.out
      subst hv
      subst he
      rw [hL] at hTy
      have hLl : (L.map (·.2)).length = l'.length := by rw [hL]; simp
      have hC7 := hC6.kp hk7 (by simp <;> omega)
      have hR7 := (HR5.out.kp hk6 (by simp <;> omega)).kp hk7 (by simp <;> omega)
      obtain ⟨y0, y1, y2, y3, y4⟩ := hC7.cells
      have fr4 := hC7.frozen 4
      have HTy : Hid _ := hTy
      have HS7 : Hid (Sq μ wb w7 sp bM bQ n nq M7 f q V) := hS7
      have HK7 : Hid (Kp [bM] w w7) := (HK5.out.then hk6 (by simp)).trans hk7
      have HR7 : Hid (Box w7 (w.heap.size + 1) (.int .i64 0) (.int .i64 0) (.string { data := #[] }) (.int .i64 0) (.slice none 0 0)) := hR7
      have HD7 : Hid (∀ x, (M7 x).isSome = (M x).isSome) := fun x => (hd7 x).trans (HD.out x)
      have hz67 := hk7.size
      clear hTy hS7 hk7 hd7 hR7 hC7 ho hTs hTs' hS6 x0 x1 x2 x3 x4 hC6
      generalize (L.map (·.2)).length = nr at *
      subst hLl
      have hR8 : Box (w7.setCell ⟨w.heap.size, 4, none⟩ (.slice pr l'.length capr)) (w.heap.size + 1) (.int .i64 0) (.int .i64 0) (.string { data := #[] }) (.int .i64 0) (.slice none 0 0) := HR7.out.kp (Kp.setCell (X := [w.heap.size]) w7 ⟨w.heap.size, 4, none⟩ (by simp) _) (by simp)
      have HR8 : Hid _ := hR8
      clear hR8
      go_wp2_with (refine wpList_store5 rfl _ _ rfl rfl _ rfl rfl HR8.out (one5 _ _ _ _ _ _ _) ?_; intro w9 hR9 hk9)
      obtain ⟨v0, v1, v2, v3, v4⟩ := hR9.cells
      have hk79 : Kp [w.heap.size, w.heap.size + 1] w7 w9 := ((Kp.setCell (X := [w.heap.size]) w7 ⟨w.heap.size, 4, none⟩ (by simp) (.slice pr l'.length capr)).mono (by simp)).trans (hk9.mono (by simp))
      refine bodyPost_ret (v := .agg #[.int .i64 k', .int .i64 m', .string s', .int .i64 e1, .slice pr l'.length capr]) (by simp [results, Try.results34, go_sem, v0, v1, v2, v3, v4]) rfl (ReplPost.mk k' m' s' e1 (l'.map (fun T => (T.app f).app (mkv q))) pr capr (by rw [List.length_map]) ?_ ?_ (SqPost.mk M7 (HS7.out.kp hk79 ⟨by simp <;> omega, by simp <;> omega, by simp <;> omega, by simp <;> omega⟩) HD7.out (HK7.out.then hk79 (by simp))))
      · rw [HX.out]
        exact HX2.out
      · refine TyAt.keep (P := fun b => w6.heap.size ≤ b) HTy.out fun b hb hlt7 => ⟨hk79.block b hlt7 (by simp <;> omega), by omega⟩
end Go.Proofs.Ytbgpjaniohpfaaa
