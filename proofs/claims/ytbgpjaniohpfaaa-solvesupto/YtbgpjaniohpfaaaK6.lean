/-
  Does a variable stand within a type, its variables replaced (within).
-/
import Derived.Test.YtbgpjaniohpfaaaK5
namespace Go.Proofs.Ytbgpjaniohpfaaa
open Go.RowKit Go.Deep
variable {μ : Marks}
/-- A block that holds the solver's address. -/
def PtrBox (w : World) (b sp : Nat) : Prop := w.heap[b]? = some (.cells #[.pointer (some ⟨sp, 0, none⟩)] 45)
theorem PtrBox.kp {X : List Nat} {w w' : World} {b sp : Nat} (h : PtrBox w b sp) (hk : Kp X w w') (hb : b ∉ X) : PtrBox w' b sp := (hk.block b (Array.getElem?_eq_some_iff.1 h).1 hb).trans h
theorem PtrBox.lt {w : World} {b sp : Nat} (h : PtrBox w b sp) : b < w.heap.size := (Array.getElem?_eq_some_iff.1 h).1
theorem PtrBox.cell {w : World} {b sp : Nat} (h : PtrBox w b sp) : w.cell? ⟨b, 0, none⟩ = some (.pointer (some ⟨sp, 0, none⟩)) := by
  unfold PtrBox at h
  simp [World.cell?, h]
theorem PtrBox.new (w : World) (sp : Nat) : PtrBox (w.alloc (.cells #[.pointer (some ⟨sp, 0, none⟩)] 45)) w.heap.size sp := (MapKept.heap_alloc w _).1
theorem SvPost.trans {wb : World} {sp bM n : Nat} {f : Int → Ty} {w w1 : World} {M : Int → Option Ty} {X : List Nat} (hk : Kp X w w1) {M1 : Int → Option Ty} (hd : ∀ x, (M1 x).isSome = (M x).isSome) {w2 : World} (h : SvPost μ wb sp bM n f w1 M1 X w2) : SvPost μ wb sp bM n f w M X w2 := by
  cases h with
  | mk M' hS hd' hk' => exact SvPost.mk M' hS (fun x => (hd' x).trans (hd x)) (hk.trans hk')
/-- What is asked of within at one type. -/
def WithinAt (μ : Marks) (wb : World) (sp bM n : Nat) (f : Int → Ty) (x : Int) (T : Ty) : Prop :=
  ∀ (w : World) (M : Int → Option Ty) (k m : Int) (s : ByteArray) (e : Int) (l : List Ty) (p : Option Addr) (cap : Nat), T = .mk k m s e l → Sv μ wb w sp bM n M f → TyIn wb [.int .i64 k, .int .i64 m, .string s, .int .i64 e, .slice p l.length cap] (.mk k m s e l) → T.okm μ →
    Calls Try.prog 50 #[.pointer (some ⟨sp, 0, none⟩), .int .i64 x, .agg #[.int .i64 k, .int .i64 m, .string s, .int .i64 e, .slice p l.length cap]] w fun e' w' => e' = .returned (.bool ((T.app f).hasV x)) ∧ SvPost μ wb sp bM n f w M [bM] w'
set_option maxHeartbeats 2000000 in
set_option maxRecDepth 100000 in
theorem anon_any {wb : World} {sp bM n : Nat} {f : Int → Ty} {x : Int} {k m : Int} {s : ByteArray} {e : Int} {l : List Ty} {p : Option Addr} {cap : Nat} (h : WithinAt μ wb sp bM n f x (.mk k m s e l)) (w : World) (M : Int → Option Ty) (A B : Nat)
    (hA : PtrBox w A sp) (hB : IntBox w B x) (hS : Sv μ wb w sp bM n M f) (hT : TyIn wb [.int .i64 k, .int .i64 m, .string s, .int .i64 e, .slice p l.length cap] (.mk k m s e l)) (hs : (Ty.mk k m s e l).okm μ) :
    Calls Try.prog 57 #[.agg #[.int .i64 k, .int .i64 m, .string s, .int .i64 e, .slice p l.length cap], .pointer (some ⟨A, 0, none⟩), .pointer (some ⟨B, 0, none⟩)] w fun e' w' => e' = .returned (.bool (((Ty.mk k m s e l).app f).hasV x)) ∧ SvPost μ wb sp bM n f w M [bM] w' := by
  have hk1 : Kp [] w (w.alloc (Obj.cells #[Value.int IntKind.i64 k, Value.int IntKind.i64 m, Value.string s, Value.int IntKind.i64 e, Value.slice p l.length cap] 33)) := Kp.alloc _ _ _
  have hcall := h _ M k m s e l p cap rfl (hS.kp hk1 (by simp)) hT hs
  have a0 := (hA.kp hk1 (by simp)).cell
  have b0 := (hB.kp hk1 (by simp)).cell
  have Hcall : Hid _ := hcall
  have Hk1 : Hid _ := hk1
  generalize ((Ty.mk k m s e l).app f).hasV x = R at *
  clear hcall hA hB hS hT hs h hk1
  go_enter Try.func57, Try.ntmps57
  go_wp2_with fail
  refine Calls.mono Hcall.out ?_
  rintro e10 w6 ⟨rfl, hp⟩
  have Hp : Hid (SvPost μ wb sp bM n f w M [bM] w6) := SvPost.trans (Kp.mono Hk1.out (by simp)) (fun _ => rfl) hp
  clear hp
  go_wp2
  go_ret
  exact ⟨rfl, Hp.out⟩
set_option maxHeartbeats 2000000 in
set_option maxRecDepth 100000 in
theorem index_any {wb : World} {sp bM n : Nat} {f : Int → Ty} {x : Int} {k m : Int} {s : ByteArray} {e : Int} {l : List Ty} {p : Option Addr} {cap : Nat} (h : ∀ i (hi : i < l.length), WithinAt μ wb sp bM n f x (l[i]'hi)) (w : World) (M : Int → Option Ty) (A B : Nat)
    (hA : PtrBox w A sp) (hB : IntBox w B x) (hS : Sv μ wb w sp bM n M f) (hne : A ≠ bM ∧ B ≠ bM) (hT : TyIn wb [.int .i64 k, .int .i64 m, .string s, .int .i64 e, .slice p l.length cap] (.mk k m s e l)) (hs : (Ty.mk k m s e l).okm μ) :
    Calls Try.prog 69 #[.slice p l.length cap, .func (Fn.func 57) #[] #[.pointer (some ⟨A, 0, none⟩), .pointer (some ⟨B, 0, none⟩)]] w fun e' w' => SvPost μ wb sp bM n f w M [bM] w' ∧ ∃ r : Int, e' = .returned (.int .i64 r) ∧ Hid (decide (0 ≤ r) = l.any (fun a => (a.app f).hasV x)) := by
  obtain ⟨pp, cp, hcs, hl1, hl2, hel⟩ := hT.elem
  obtain ⟨rfl, rfl⟩ : p = pp ∧ cap = cp := by simpa using hcs
  have Hel : Hid _ := hel
  have Hh : Hid (∀ i (hi : i < l.length), WithinAt μ wb sp bM n f x (l[i]'hi)) := h
  have Hs : Hid ((Ty.mk k m s e l).okm μ) := hs
  have HR0 : Hid (PtrBox w A sp ∧ IntBox w B x ∧ Sv μ wb w sp bM n M f) := ⟨hA, hB, hS⟩
  unfold maxLen at hl1
  clear hel hT hcs h hs hA hB hS
  go_enter Try.func69, Try.ntmps69
  go_wp2_with fail
  go_loopg [8] l.length (fun g iv wr => ∃ (i : Nat), iv = .int .i64 i ∧ i ≤ l.length ∧ g = l.length - i ∧ Hid (∃ Mr, (l.take i).any (fun a => (a.app f).hasV x) = false ∧ Sv μ wb wr sp bM n Mr f ∧ (∀ x, (Mr x).isSome = (M x).isSome) ∧ Kp [bM] w wr))
  case atStart => exact ⟨0, rfl, by omega, by omega, M, by simp, HR0.out.2.2, fun _ => rfl, Kp.refl _ _⟩
  case round =>
    obtain ⟨i, rfl, hi1, rfl, HR⟩ := hrel
    by_cases hi : i < l.length
    · have hi' : (i : Int) < l.length := by omega
      obtain ⟨b, o, k2, n2, s2, e2, l2, p2, cap2, rfl, hli, g0, g1, g2, g3, g4, hbw, hty⟩ := Hel.out i hi
      obtain ⟨Mr, r1, r3, r4, r5⟩ := HR.out
      clear HR
      have hb := r3.base
      rw [← hb.cell (p := ⟨b, o + i * 5, none⟩) hbw] at g0
      rw [← hb.cell (p := ⟨b, o + i * 5 + 1, none⟩) hbw] at g1
      rw [← hb.cell (p := ⟨b, o + i * 5 + 2, none⟩) hbw] at g2
      rw [← hb.cell (p := ⟨b, o + i * 5 + 3, none⟩) hbw] at g3
      rw [← hb.cell (p := ⟨b, o + i * 5 + 4, none⟩) hbw] at g4
      have hbr := Nat.lt_of_lt_of_le hbw hb.size
      have hsh2 := okm_arg Hs.out i hi
      have hh := Hh.out i hi
      have htk : (l.take (i + 1)).any (fun a => (a.app f).hasV x) = ((l[i]'hi).app f).hasV x := by
        rw [List.take_succ_eq_append_getElem hi, List.any_append, r1]
        simp
      have hall : ((l[i]'hi).app f).hasV x = true → l.any (fun a => (a.app f).hasV x) = true := fun hq => List.any_eq_true.2 ⟨_, List.getElem_mem hi, hq⟩
      rw [hli] at hsh2 hty hh htk hall
      have hA := HR0.out.1.kp r5 (by simp <;> omega)
      have hB := HR0.out.2.1.kp r5 (by simp <;> omega)
      have hcall := anon_any hh wr Mr A B hA hB r3 hty hsh2
      have Hcall : Hid _ := hcall
      have Htk : Hid ((l.take (i + 1)).any (fun a => (a.app f).hasV x) = ((Ty.mk k2 n2 s2 e2 l2).app f).hasV x) := htk
      have Hall : Hid (((Ty.mk k2 n2 s2 e2 l2).app f).hasV x = true → l.any (fun a => (a.app f).hasV x) = true) := hall
      have R4 : Hid (∀ x, (Mr x).isSome = (M x).isSome) := r4
      have R5 : Hid (Kp [bM] w wr) := r5
      generalize ((Ty.mk k2 n2 s2 e2 l2).app f).hasV x = R at *
      clear hcall r1 r3 r4 r5 hsh2 hty hli hb hh htk hall hA hB
      go_wp2_with fail
      refine Calls.mono Hcall.out ?_
      rintro e10 w6 ⟨rfl, hp⟩
      have Hp : Hid (SvPost μ wb sp bM n f wr Mr [bM] w6) := hp
      clear hp Hcall g0 g1 g2 g3 g4
      cases R with
      | true =>
        go_wp2
        go_ret
        exact ⟨SvPost.trans R5.out R4.out Hp.out, i, rfl, by unfold Hid; rw [Hall.out (by first | rfl | trivial)]; simp⟩
      | false =>
        go_wp2
        go_roundg (l.length - (i + 1))
        case measure => omega
        case rel =>
          cases SvPost.trans R5.out R4.out Hp.out with
          | mk M6 q1 q2 q3 => exact ⟨i + 1, by first | rfl | (congr 1; omega) | go_num, by omega, rfl, M6, Htk.out, q1, q2, q3⟩
    · have hi' : ¬ (i : Int) < l.length := by omega
      go_wp2
      go_ret
      obtain ⟨Mr, r1, r3, r4, r5⟩ := HR.out
      rw [List.take_of_length_le (by omega)] at r1
      exact ⟨SvPost.mk Mr r3 r4 r5, -1, rfl, by unfold Hid; rw [r1]; rfl⟩
set_option maxHeartbeats 2000000 in
set_option maxRecDepth 100000 in
theorem contains_any {wb : World} {sp bM n : Nat} {f : Int → Ty} {x : Int} {k m : Int} {s : ByteArray} {e : Int} {l : List Ty} {p : Option Addr} {cap : Nat} (h : ∀ i (hi : i < l.length), WithinAt μ wb sp bM n f x (l[i]'hi)) (w : World) (M : Int → Option Ty) (A B : Nat)
    (hA : PtrBox w A sp) (hB : IntBox w B x) (hS : Sv μ wb w sp bM n M f) (hne : A ≠ bM ∧ B ≠ bM) (hT : TyIn wb [.int .i64 k, .int .i64 m, .string s, .int .i64 e, .slice p l.length cap] (.mk k m s e l)) (hs : (Ty.mk k m s e l).okm μ) :
    Calls Try.prog 56 #[.slice p l.length cap, .func (Fn.func 57) #[] #[.pointer (some ⟨A, 0, none⟩), .pointer (some ⟨B, 0, none⟩)]] w fun e' w' => SvPost μ wb sp bM n f w M [bM] w' ∧ e' = .returned (.bool (l.any (fun a => (a.app f).hasV x))) := by
  have Hcall : Hid _ := index_any h w M A B hA hB hS hne hT hs
  generalize l.any (fun a => (a.app f).hasV x) = R at *
  clear hA hB hS hT hs h
  go_enter Try.func56, Try.ntmps56
  go_wp2_with fail
  refine Calls.mono Hcall.out ?_
  rintro e10 w6 ⟨hp, r, rfl, hr⟩
  have Hp : Hid (SvPost μ wb sp bM n f w M [bM] w6) := hp
  have Hr : Hid (decide (0 ≤ r) = R) := hr
  clear hp hr
  by_cases h0 : 0 ≤ r
  · go_wp2
    go_ret
    exact ⟨Hp.out, ret_bool (by rw [← Hr.out] <;> first | done | simpa using h0)⟩
  · go_wp2
    go_ret
    exact ⟨Hp.out, ret_bool (by rw [← Hr.out] <;> first | done | simpa using h0)⟩
set_option maxHeartbeats 2000000 in
set_option maxRecDepth 100000 in
theorem within_any (wb : World) (sp bM n : Nat) (f : Int → Ty) (x : Int) : ∀ (N : Nat) (T : Ty), (T.app f).count ≤ N → WithinAt μ wb sp bM n f x T := by
  intro N
  induction N with
  | zero => intro T hN; have := Full.count_pos (T.app f); omega
  | succ N ih =>
    intro T hN w M k m s e l p cap hTe hS hT hsh
    subst hTe
    have Hih : Hid _ := ih
    have HT : Hid (TyIn wb [.int .i64 k, .int .i64 m, .string s, .int .i64 e, .slice p l.length cap] (.mk k m s e l)) := hT
    have Hsh : Hid ((Ty.mk k m s e l).okm μ) := hsh
    have HS : Hid (Sv μ wb w sp bM n M f) := hS
    have HN : Hid (((Ty.mk k m s e l).app f).count ≤ N + 1) := hN
    have hlt := hS.lt
    have hbs := hS.base.size
    have hk3 : Kp [] w (((w.alloc (Obj.cells #[.pointer (some ⟨sp, 0, none⟩)] 45)).alloc (Obj.cells #[.int .i64 x] 3)).alloc (Obj.cells #[Value.int IntKind.i64 k, Value.int IntKind.i64 m, Value.string s, Value.int IntKind.i64 e, Value.slice p l.length cap] 33)) := (Kp.alloc _ _ _).trans ((Kp.alloc _ _ _).trans (Kp.alloc _ _ _))
    have hA := ((PtrBox.new w sp).kp (Kp.alloc [] _ (Obj.cells #[.int .i64 x] 3)) (by simp)).kp (Kp.alloc [] _ (Obj.cells #[Value.int IntKind.i64 k, Value.int IntKind.i64 m, Value.string s, Value.int IntKind.i64 e, Value.slice p l.length cap] 33)) (by simp)
    have hB := (IntBox.new (w.alloc (Obj.cells #[.pointer (some ⟨sp, 0, none⟩)] 45)) x).kp (Kp.alloc [] _ (Obj.cells #[Value.int IntKind.i64 k, Value.int IntKind.i64 m, Value.string s, Value.int IntKind.i64 e, Value.slice p l.length cap] 33)) (by simp)
    have hC := Box.new ((w.alloc (Obj.cells #[.pointer (some ⟨sp, 0, none⟩)] 45)).alloc (Obj.cells #[.int .i64 x] 3)) (.int .i64 k) (.int .i64 m) (.string s) (.int .i64 e) (.slice p l.length cap)
    rw [heap_size_alloc] at hB
    rw [heap_size_alloc, heap_size_alloc] at hC
    generalize hX : ((Ty.mk k m s e l).app f) = X at *
    clear ih hS hT hsh hN
    go_enter Try.func50, Try.ntmps50
    go_wp2_with fail
    generalize ((w.alloc (Obj.cells #[.pointer (some ⟨sp, 0, none⟩)] 45)).alloc (Obj.cells #[.int .i64 x] 3)).alloc (Obj.cells #[Value.int IntKind.i64 k, Value.int IntKind.i64 m, Value.string s, Value.int IntKind.i64 e, Value.slice p l.length cap] 33) = w3 at *
    refine (top_any wb w3 sp bM n M f k m s e l p cap (HS.out.kp hk3 (by simp)) HT.out Hsh.out).mono ?_
    rintro e9 w5 ⟨k', m', s', e1, l', p', cap', M', rfl, hT', hS', hF', hfree', hdom', hsv', hk'⟩
    rw [hX] at hF'
    have HC5 : Hid (Box w5 (w.heap.size + 1 + 1) (.int .i64 k) (.int .i64 m) (.string s) (.int .i64 e) (.slice p l.length cap)) := hC.kp hk' (by simp <;> omega)
    have HA5 : Hid (PtrBox w5 w.heap.size sp) := hA.kp hk' (by simp <;> omega)
    have HB5 : Hid (IntBox w5 (w.heap.size + 1) x) := hB.kp hk' (by simp <;> omega)
    have HK5 : Hid (Kp [bM] w w5) := (hk3.mono (by simp)).trans hk'
    have HT' : Hid (TyIn wb [.int .i64 k', .int .i64 m', .string s', .int .i64 e1, .slice p' l'.length cap'] (.mk k' m' s' e1 l')) := hT'
    have HS' : Hid ((Ty.mk k' m' s' e1 l').okm μ) := hS'
    have HX : Hid ((k' = 0 ∧ l' = [] ∧ X = .vr m') ∨ (¬ k' = 0 ∧ X = .mk k' m' s' e1 (l'.map (Ty.app f)))) := Full.top_parts hsv'.agr hF' hfree' hS'
    have HD : Hid (∀ x, (M' x).isSome = (M x).isSome) := hdom'
    have HV : Hid (Sv μ wb w5 sp bM n M' f) := hsv'
    clear hT' hS' hF' hfree' hdom' hsv' hk' hA hB hC hk3 HS HT Hsh
    by_cases hk0 : k' = 0
    · have hx : X.hasV x = (m' == x) := by
        rcases HX.out with ⟨_, _, h⟩ | ⟨h, _⟩
        · rw [h, Ty.hasV_vr]
        · exact absurd hk0 h
      have HX2 : Hid (X.hasV x = (m' == x)) := hx
      have hk0' : (k' == 0) = true := by simpa using hk0
      clear hx
      have Hk0 : Hid (k' = 0) := hk0
      clear hk0
      go_wp2_with (refine wpList_store5 rfl _ _ rfl rfl _ rfl rfl HC5.out (one5 _ _ _ _ _ _ _) ?_; intro w6 hC6 hk6; obtain ⟨x0, x1, x2, x3, x4⟩ := hC6.cells; have b0 := (HB5.out.kp hk6 (by simp <;> omega)).cell)
      go_ret
      have hk6' : Kp [bM] w w6 := HK5.out.then hk6 (by simp <;> omega)
      exact ⟨ret_bool HX2.out.symm, SvPost.mk M' (HV.out.kp hk6 ⟨by simp <;> omega, by simp <;> omega, by simp <;> omega⟩) HD.out hk6'⟩
    · have hx : X.hasV x = l'.any (fun a => (a.app f).hasV x) ∧ X.count = 1 + Ty.countL (l'.map (Ty.app f)) := by
        rcases HX.out with ⟨h, _⟩ | ⟨_, h⟩
        · exact absurd h hk0
        · rw [h, Ty.hasV_mk hk0, List.any_map]
          exact ⟨rfl, by unfold Ty.count; rfl⟩
      have HX2 : Hid (X.hasV x = l'.any (fun a => (a.app f).hasV x)) := hx.1
      have hin : ∀ i (hi : i < l'.length), WithinAt μ wb sp bM n f x (l'[i]'hi) := by
        intro i hi
        refine Hih.out _ ?_
        have h1 := Ty.countL_mem (l'.map (Ty.app f)) i (by simpa using hi)
        rw [List.getElem_map] at h1
        have := HN.out
        have := hx.2
        omega
      have Hin : Hid (∀ i (hi : i < l'.length), WithinAt μ wb sp bM n f x (l'[i]'hi)) := hin
      have hk0' : (k' == 0) = false := by simpa using hk0
      have Hk0 : Hid (¬ k' = 0) := hk0
      clear hx hin hk0
      go_wp2_with (refine wpList_store5 rfl _ _ rfl rfl _ rfl rfl HC5.out (one5 _ _ _ _ _ _ _) ?_; intro w6 hC6 hk6; obtain ⟨x0, x1, x2, x3, x4⟩ := hC6.cells)
      have hk6' : Kp [bM] w w6 := HK5.out.then hk6 (by simp <;> omega)
      refine (contains_any Hin.out w6 M' w.heap.size (w.heap.size + 1) (HA5.out.kp hk6 (by simp <;> omega)) (HB5.out.kp hk6 (by simp <;> omega)) (HV.out.kp hk6 ⟨by simp <;> omega, by simp <;> omega, by simp <;> omega⟩) (by omega) HT'.out HS'.out).mono ?_
      rintro e10 w7 ⟨hp, rfl⟩
      have Hp : Hid (SvPost μ wb sp bM n f w M [bM] w7) := SvPost.trans hk6' HD.out hp
      generalize l'.any (fun a => (a.app f).hasV x) = R at *
      clear hp
      go_wp2
      go_ret
      exact ⟨ret_bool HX2.out.symm, Hp.out⟩
end Go.Proofs.Ytbgpjaniohpfaaa
