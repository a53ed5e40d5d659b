/-
  Are a type's values compared: variables, and all together (compare, compared).
-/
import Derived.Test.YtbgpjaniohpfaaaK7
namespace Go.Proofs.Ytbgpjaniohpfaaa
open Go.RowKit Go.Deep
variable {μ : Marks}
set_option maxHeartbeats 2000000 in
set_option maxRecDepth 100000 in
theorem compare_at {wb : World} {sp bM bQ n nq : Nat} {f : Int → Ty} {V : List Int} (T : Ty) (h : ∀ k m s e l, ¬ k = 0 → (Ty.mk k m s e l).app f = T.app f → CmpAt μ 51 wb sp bM bQ n nq f V (cmpArgs sp) (.mk k m s e l)) : CmpAt μ 52 wb sp bM bQ n nq f V (comArgs sp) T := by
  intro w M q k m s e l p cap hTe hS hT hsh hV
  subst hTe
  have hlt := hS.lt
  have hk1 : Kp [] w (w.alloc (Obj.cells #[Value.int IntKind.i64 k, Value.int IntKind.i64 m, Value.string s, Value.int IntKind.i64 e, Value.slice p l.length cap] 33)) := Kp.alloc _ _ _
  have hz1 : (w.alloc (Obj.cells #[Value.int IntKind.i64 k, Value.int IntKind.i64 m, Value.string s, Value.int IntKind.i64 e, Value.slice p l.length cap] 33)).heap.size = w.heap.size + 1 := by simp
  have hS1 := hS.kp hk1 (by simp)
  have HS1 : Hid _ := hS1
  have HT : Hid (TyIn wb [.int .i64 k, .int .i64 m, .string s, .int .i64 e, .slice p l.length cap] (.mk k m s e l)) := hT
  have Hsh : Hid ((Ty.mk k m s e l).okm μ) := hsh
  have Hh : Hid (∀ k' m' s' e' l', ¬ k' = 0 → (Ty.mk k' m' s' e' l').app f = (Ty.mk k m s e l).app f → CmpAt μ 51 wb sp bM bQ n nq f V (cmpArgs sp) (.mk k' m' s' e' l')) := h
  have HV : Hid (∀ x, ((Ty.mk k m s e l).app f).hasV x = true → V.contains x = true) := hV
  clear h hS hT hsh hV hS1
  generalize hX : (Ty.mk k m s e l).app f = X at *
  generalize hRR : X.cmp q = R
  have HRR : Hid (X.cmp q = R) := hRR
  clear hRR
  unfold comArgs
  go_enter Try.func52, Try.ntmps52
  go_wp2_with fail
  generalize w.alloc (Obj.cells #[Value.int IntKind.i64 k, Value.int IntKind.i64 m, Value.string s, Value.int IntKind.i64 e, Value.slice p l.length cap] 33) = w1 at *
  refine (top_any wb w1 sp bM n M f k m s e l p cap (Sq.sv HS1.out) HT.out Hsh.out).mono ?_
  rintro e9 w5 ⟨k', m', s', e1, l', p', cap', M', rfl, hT', hS', hF', hfree', hdom', hsv', hk'⟩
  rw [hX] at hF'
  have hsq5 := Sq.after HS1.out hsv' hk'
  have hka : Kp [] w5 (w5.alloc (Obj.cells #[Value.int IntKind.i64 k', Value.int IntKind.i64 m', Value.string s', Value.int IntKind.i64 e1, Value.slice p' l'.length cap'] 33)) := Kp.alloc _ _ _
  have hsq6 := hsq5.kp hka (by simp)
  have hB6 := Box.new w5 (.int .i64 k') (.int .i64 m') (.string s') (.int .i64 e1) (.slice p' l'.length cap')
  have hK6 : Kp [bM, bQ] w (w5.alloc (Obj.cells #[Value.int IntKind.i64 k', Value.int IntKind.i64 m', Value.string s', Value.int IntKind.i64 e1, Value.slice p' l'.length cap'] 33)) := ((hk1.mono (by simp)).trans (hk'.mono (by simp))).trans (hka.mono (by simp))
  have HX : Hid ((k' = 0 ∧ l' = [] ∧ X = .vr m') ∨ (¬ k' = 0 ∧ X = .mk k' m' s' e1 (l'.map (Ty.app f)))) := Full.top_parts hsv'.agr hF' hfree' hS'
  have HT' : Hid (TyIn wb [.int .i64 k', .int .i64 m', .string s', .int .i64 e1, .slice p' l'.length cap'] (.mk k' m' s' e1 l')) := hT'
  have HS' : Hid ((Ty.mk k' m' s' e1 l').okm μ) := hS'
  have HD : Hid (∀ x, (M' x).isSome = (M x).isSome) := hdom'
  have HAX : Hid ((Ty.mk k' m' s' e1 l').app f = X) := (hsv'.agr.eq hF').symm
  have hlt5 := hsq6.lt
  clear hT' hS' hF' hfree' hdom' hsv' hk' hka HS1 HT Hsh hk1 hz1 hsq5
  by_cases hk0 : k' = 0
  · have hx : X = .vr m' := by
      rcases HX.out with ⟨_, _, h⟩ | ⟨h, _⟩
      · exact h
      · exact absurd hk0 h
    have hwf := (shaped_wf HT'.out).2.1
    have hvm : V.contains m' = true := HV.out m' (by rw [hx, Ty.hasV_vr]; simp)
    have hc1 := hsq6.cell
    obtain ⟨x0, x1, x2, x3, x4⟩ := hB6.cells
    obtain ⟨w7, hrun, hmap, hk7⟩ := hsq6.drew.map.store hsq6.room hwf hvm (c := 1) (.inr rfl)
    have hcm : X.cmp q = (true, upd q m' 1) := by rw [hx]; exact Ty.cmp_var rfl
    have Hcm : Hid (R = (true, upd q m' 1)) := HRR.out.symm.trans hcm
    have hk0' : (k' == 0) = true := by simpa using hk0
    have Hsq6 : Hid _ := hsq6
    have HK6 : Hid _ := hK6
    have HK7 : Hid (Kp [bQ] (w5.alloc (Obj.cells #[Value.int IntKind.i64 k', Value.int IntKind.i64 m', Value.string s', Value.int IntKind.i64 e1, Value.slice p' l'.length cap'] 33)) w7) := (Kp.refl _ _).drew.trans hk7
    have Hmap : Hid (EqAt w7 bQ nq (upd q m' 1) V) := hmap
    clear hx hcm hk0 hsq6 hK6 hk7 hmap hB6 hvm
    go_wp2_with fail
    go_region
    go_wp2
    go_ret
    rw [Hcm.out]
    have q1 : Sv μ wb w7 sp bM n M' f := (Sq.sv Hsq6.out).kp HK7.out ⟨by simp <;> omega, by simp <;> omega, by have := (Sq.hi Hsq6.out).1; simp <;> omega⟩
    have q2 : Kp [bM, bQ] w w7 := Kp.trans HK6.out (HK7.out.mono (by simp))
    exact ⟨rfl, SqPost.mk M' ⟨q1, HK7.out.cell hc1 (by simp <;> omega), Hmap.out, Sq.hi Hsq6.out, Sq.room Hsq6.out, low_upd (Sq.low Hsq6.out) _⟩ HD.out q2⟩
  · obtain ⟨x0, x1, x2, x3, x4⟩ := hB6.cells
    have hcall := Hh.out k' m' s' e1 l' hk0 HAX.out _ M' q k' m' s' e1 l' p' cap' rfl hsq6 HT'.out HS'.out (by rw [HAX.out]; exact HV.out)
    rw [HAX.out, HRR.out] at hcall
    unfold cmpArgs at hcall
    have Hcall : Hid _ := hcall
    have hk0' : (k' == 0) = false := by simpa using hk0
    have HK6 : Hid _ := hK6
    clear hcall hk0 hsq6 hK6 hB6
    go_wp2_with fail
    refine Calls.mono Hcall.out ?_
    rintro e10 w7 ⟨rfl, hp⟩
    have Hp : Hid (SqPost μ wb sp bM bQ n nq f V w M [bM, bQ] R.2 w7) := SqPost.trans HK6.out HD.out hp
    clear hp
    go_wp2
    go_ret
    exact ⟨rfl, Hp.out⟩
set_option maxHeartbeats 2000000 in
set_option maxRecDepth 100000 in
theorem compared_var {wb : World} {sp bM bQ n nq : Nat} {f : Int → Ty} {V : List Int} {k m : Int} {s : ByteArray} {e : Int} {l : List Ty} (h : CmpAt μ 52 wb sp bM bQ n nq f V (comArgs sp) (.mk k m s e l)) (h0 : k = 0) : CmpAt μ 51 wb sp bM bQ n nq f V (cmpArgs sp) (.mk k m s e l) := by
  intro w M q k9 m9 s9 e9 l9 p cap hTe hS hT hsh hV
  cases hTe
  have hk1 : Kp [] w (w.alloc (Obj.cells #[Value.int IntKind.i64 k, Value.int IntKind.i64 m, Value.string s, Value.int IntKind.i64 e, Value.slice p l.length cap] 33)) := Kp.alloc _ _ _
  have hcall := h _ M q k m s e l p cap rfl (hS.kp hk1 (by simp)) hT hsh hV
  unfold comArgs at hcall
  have Hcall : Hid _ := hcall
  have HK1 : Hid (Kp [bM, bQ] w (w.alloc (Obj.cells #[Value.int IntKind.i64 k, Value.int IntKind.i64 m, Value.string s, Value.int IntKind.i64 e, Value.slice p l.length cap] 33))) := hk1.mono (by simp)
  have hk0 : (k == 0) = true := by simpa using h0
  generalize ((Ty.mk k m s e l).app f).cmp q = R at *
  clear hcall h hS hT hsh hV hk1 h0
  unfold cmpArgs
  go_enter Try.func51, Try.ntmps51
  go_wp2_with fail
  refine Calls.mono Hcall.out ?_
  rintro e10 w7 ⟨rfl, hp⟩
  have Hp : Hid (SqPost μ wb sp bM bQ n nq f V w M [bM, bQ] R.2 w7) := SqPost.trans HK1.out (fun _ => rfl) hp
  clear hp
  go_wp2
  go_ret
  exact ⟨rfl, Hp.out⟩
theorem compared_any (wb : World) (sp bM bQ n nq : Nat) (f : Int → Ty) (V : List Int) : ∀ (N : Nat) (T : Ty), (T.app f).count ≤ N → CmpAt μ 51 wb sp bM bQ n nq f V (cmpArgs sp) T := by
  intro N
  induction N with
  | zero => intro T hN; have := Full.count_pos (T.app f); omega
  | succ N ih =>
    have key : ∀ k m s e l, ¬ k = 0 → ((Ty.mk k m s e l).app f).count ≤ N + 1 → CmpAt μ 51 wb sp bM bQ n nq f V (cmpArgs sp) (.mk k m s e l) := by
      intro k m s e l h0 hN
      refine compared_args (fun i hi => ih _ ?_) h0
      rw [Ty.app_mk h0] at hN
      have := Ty.count_arg (k := k) (n := m) (s := s) (e := e) (l := l.map (Ty.app f)) i (by simpa using hi)
      rw [List.getElem_map] at this
      omega
    intro T hN
    cases T with
    | mk k m s e l =>
      by_cases h0 : k = 0
      · exact compared_var (compare_at _ fun k' m' s' e' l' hk he => key k' m' s' e' l' hk (by rw [he]; exact hN)) h0
      · exact key k m s e l h0 hN
end Go.Proofs.Ytbgpjaniohpfaaa
