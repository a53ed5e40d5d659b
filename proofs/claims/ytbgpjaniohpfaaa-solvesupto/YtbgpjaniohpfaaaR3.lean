/-
  The document's own solver: does a variable stand in a type (in)?
-/
import Derived.Test.YtbgpjaniohpfaaaR2
namespace Go.Proofs.Ytbgpjaniohpfaaa
open Go.RowKit Go.Deep
theorem any_step (L : List Ty) (x : Int) (i : Nat) (hi : i < L.length) : (L.drop i).any (Ty.hasV x) = ((L[i]'hi).hasV x || (L.drop (i + 1)).any (Ty.hasV x)) := by
  rw [List.drop_eq_getElem_cons hi, List.any_cons]
theorem OnTop.has {f : Int → Ty} {k m : Int} {s : ByteArray} {e : Int} {l : List Ty} {X : Ty} (h : OnTop f k m s e l X) (x : Int) (hk : ¬ k = 0) : X.hasV x = (l.map (Ty.app f)).any (Ty.hasV x) := by
  rw [h.arg hk, Ty.hasV_mk hk]
theorem OnTop.hasVar {f : Int → Ty} {k m : Int} {s : ByteArray} {e : Int} {l : List Ty} {X : Ty} (h : OnTop f k m s e l X) (x : Int) (hk : k = 0) : X.hasV x = (m == x) := by
  rw [(h.var hk).2, Ty.hasV_vr]
set_option maxHeartbeats 4000000 in
set_option maxRecDepth 100000 in
theorem inR_any (wb : World) (sp bM bQ n nq : Nat) (M : Int → Option Ty) (f : Int → Ty) (q : Int → Int) (V : List Int) (x : Int) : ∀ (N : Nat) (w : World) (k m : Int) (s : ByteArray) (e : Int) (l : List Ty) (p : Option Addr) (cap : Nat), ((Ty.mk k m s e l).app f).count ≤ N →
    Rq wb w sp bM bQ n nq M f q V → TyIn wb [.int .i64 k, .int .i64 m, .string s, .int .i64 e, .slice p l.length cap] (.mk k m s e l) → (Ty.mk k m s e l).okm noMarks →
    Calls Try.prog 47 #[.pointer (some ⟨sp, 0, none⟩), .int .i64 x, .agg #[.int .i64 k, .int .i64 m, .string s, .int .i64 e, .slice p l.length cap]] w fun e' w' => e' = .returned (.bool (((Ty.mk k m s e l).app f).hasV x)) ∧ Below w.heap.size w w' := by
  intro N
  induction N with
  | zero => intro w k m s e l p cap hc; have := Full.count_pos ((Ty.mk k m s e l).app f); omega
  | succ N ih =>
    intro w k m s e l p cap hcount hS hT hsh
    have hb0 := (Below.refl w.heap.size w).alloc (Nat.le_refl _) (Obj.cells #[Value.int IntKind.i64 k, Value.int IntKind.i64 m, Value.string s, Value.int IntKind.i64 e, Value.slice p l.length cap] 33)
    have hx0 := Box.new w (.int .i64 k) (.int .i64 m) (.string s) (.int .i64 e) (.slice p l.length cap)
    have hcall := topR_any wb _ sp bM bQ n nq M f q V k m s e l p cap (hS.below hb0) hT hsh
    have Hcall : Hid _ := hcall
    have HS : Hid (Rq wb w sp bM bQ n nq M f q V) := hS
    have Hb0 : Hid _ := hb0
    have Hx0 : Hid _ := hx0
    have Hih : Hid _ := ih
    have Hcount : Hid (((Ty.mk k m s e l).app f).count ≤ N + 1) := hcount
    have hwbw := hS.sv.base.size
    clear hcall hb0 hx0 ih hT hsh hS hcount
    generalize (Ty.mk k m s e l).app f = X at *
    obtain ⟨R, hR⟩ : ∃ R, R = X.hasV x := ⟨_, rfl⟩
    rw [← hR]
    have HR0 : Hid (R = X.hasV x) := hR
    clear hR
    go_enter Try.func47, Try.ntmps47
    go_wp2_with fail
    refine Calls.mono Hcall.out ?_
    rintro e1 w1 hp
    cases hp with
    | mk k' m' s' e' l' p' cap' he ht hs hf hu hb hq9 =>
    subst he
    clear hq9
    have hX := OnTop.of HS.out.sv.agr hf hu hs
    have hBx := Box.kp (X := []) Hx0.out (Kp.of_below hb) (by simp)
    have hb1 : Below w.heap.size w w1 := Below.trans Hb0.out (hb.mono (by simp))
    obtain ⟨pe, ce, hcs, hl1, hl2, hel⟩ := ht.elem
    have Hel : Hid _ := hel
    have HX : Hid (OnTop f k' m' s' e' l' X) := hX
    have hshA : ∀ i (hi : i < l'.length), (l'[i]'hi).okm noMarks := fun i hi => okm_arg hs i hi
    have HshA : Hid _ := hshA
    have hpe : pe = p' := by simpa using (show p' = pe ∧ cap' = ce by simpa using hcs).1.symm
    subst hpe
    clear hcs hel hX hf hu hs ht hb Hcall Hx0 Hb0 hshA
    unfold maxLen at hl1
    go_upto_if 14 with (refine wpList_store5 rfl _ _ rfl rfl _ rfl rfl hBx (one5 _ _ _ _ _ _ _) ?_; intro w3 hB3 hk3; obtain ⟨z0, z1, z2, z3, z4⟩ := hB3.cells)
    have hb3 : Below w.heap.size w w3 := hb1.trans (hk3.below hb1.size (by simp))
    have hz3 := hB3.lt
    have Hc4 : Hid (w3.cell? ⟨w.heap.size, 4, none⟩ = some (.slice pe l'.length cap')) := z4
    clear hB3 hk3 hb1 hBx
    by_cases hk0 : k' = 0
    · have b0 : (k' == 0) = true := by simpa using hk0
      have Hr : Hid (R = (m' == x)) := HR0.out.trans (HX.out.hasVar x hk0)
      rw [b0]
      clear b0 hk0 z0
      go_wp2
      go_ret
      exact ⟨ret_bool Hr.out.symm, hb3⟩
    · have b0 : (k' == 0) = false := by simpa using hk0
      have HR : Hid (R = ((l'.map (Ty.app f)).drop 0).any (Ty.hasV x)) := HR0.out.trans (HX.out.has x hk0)
      rw [b0]
      clear b0 hk0 HR0 z0 z1 z2 z3 z4
      go_wp2_with fail
      go_loopw [7] (fun b wr => ∃ (i : Nat), b = .int .i64 i ∧ i ≤ l'.length ∧ Below w3.heap.size w3 wr ∧ Hid (R = ((l'.map (Ty.app f)).drop i).any (Ty.hasV x))) (fun b _ => l'.length - (intOf b).toNat)
      case atStart => exact ⟨0, rfl, by omega, Below.refl _ _, HR.out⟩
      case round =>
        clear HR
        rename_i wr
        obtain ⟨i, rfl, hi1, hbe, Hs⟩ := hrel
        have hb : Below w.heap.size w wr := hb3.trans (hbe.mono (Nat.le_of_lt hz3))
        have hc4 : wr.cell? ⟨w.heap.size, 4, none⟩ = some (.slice pe l'.length cap') := (hbe.cell (p := ⟨w.heap.size, 4, none⟩) hz3).trans Hc4.out
        have hzr := Nat.lt_of_lt_of_le hz3 hbe.size
        by_cases hi : i < l'.length
        · have hi' : (i : Int) < l'.length := by omega
          have hRq := HS.out.below hb
          have hbb : Below wb.heap.size wb wr := hRq.sv.base
          obtain ⟨b, o, k9, n9, s9, e9, l9, p9, cap9, rfl, hli, g0, g1, g2, g3, g4, hbw, hty⟩ := Hel.out i hi
          rw [← hbb.cell (p := ⟨b, o + i * 5, none⟩) hbw] at g0
          rw [← hbb.cell (p := ⟨b, o + i * 5 + 1, none⟩) hbw] at g1
          rw [← hbb.cell (p := ⟨b, o + i * 5 + 2, none⟩) hbw] at g2
          rw [← hbb.cell (p := ⟨b, o + i * 5 + 3, none⟩) hbw] at g3
          rw [← hbb.cell (p := ⟨b, o + i * 5 + 4, none⟩) hbw] at g4
          have hbr := Nat.lt_of_lt_of_le hbw hbb.size
          have hls := HX.out.less i hi
          have hsa := HshA.out i hi
          rw [hli] at hty hls hsa
          have Hcall : Hid _ := Hih.out wr k9 n9 s9 e9 l9 p9 cap9 (by have := Hcount.out; omega) hRq hty hsa
          have hmi : i < (l'.map (Ty.app f)).length := by simpa using hi
          have hgi : (l'.map (Ty.app f))[i]'hmi = (Ty.mk k9 n9 s9 e9 l9).app f := by rw [List.getElem_map, hli]
          have Hs' : Hid (R = (((Ty.mk k9 n9 s9 e9 l9).app f).hasV x || ((l'.map (Ty.app f)).drop (i + 1)).any (Ty.hasV x))) := by
            unfold Hid
            rw [← hgi, ← any_step (l'.map (Ty.app f)) x i hmi]
            exact Hs.out
          generalize ((Ty.mk k9 n9 s9 e9 l9).app f).hasV x = r at *
          clear hty hli Hs Hih Hel Hc4 hls hsa hgi hmi hRq hbb
          go_wp2_with fail
          refine Calls.mono Hcall.out ?_
          rintro e w4 ⟨rfl, hb4⟩
          have hbe4 := Below.then hbe hb4 (Nat.le_refl _)
          clear hb4
          cases r with
          | true =>
            have Hr : Hid (R = true) := by unfold Hid; rw [Hs'.out]; rfl
            clear Hs'
            go_wp2
            go_ret
            exact ⟨ret_bool Hr.out.symm, hb3.trans (hbe4.mono (Nat.le_of_lt hz3))⟩
          | false =>
            have Hr : Hid (R = ((l'.map (Ty.app f)).drop (i + 1)).any (Ty.hasV x)) := by unfold Hid; rw [Hs'.out]; rfl
            clear Hs'
            go_wp2
            exact ⟨⟨i + 1, by go_num, by omega, hbe4, Hr⟩, by simp [intOf]; omega⟩
        · have hi' : ¬ (i : Int) < l'.length := by omega
          have Hs' : Hid (R = false) := by
            unfold Hid
            rw [Hs.out, List.drop_of_length_le (by simp; omega)]
            rfl
          clear Hs
          go_wp2
          go_ret
          exact ⟨ret_bool Hs'.out.symm, hb⟩
end Go.Proofs.Ytbgpjaniohpfaaa
