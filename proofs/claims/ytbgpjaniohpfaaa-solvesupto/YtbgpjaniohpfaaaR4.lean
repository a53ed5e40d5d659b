/-
  The document's own solver: a type's values are compared (compare).
-/
import Derived.Test.YtbgpjaniohpfaaaR3
namespace Go.Proofs.Ytbgpjaniohpfaaa
open Go.RowKit Go.Deep
inductive CmpPost (wb : World) (sp bM bQ n : Nat) (M : Int → Option Ty) (f : Int → Ty) (V : List Int) (w : World) (r : Bool) (q' : Int → Int) (e' : Ending) (w' : World) : Prop
  | mk (nq' : Nat) (he : e' = .returned (.bool r)) (hS : Rq wb w' sp bM bQ n nq' M f q' V) (hk : Kp [bQ] w w') : CmpPost wb sp bM bQ n M f V w r q' e' w'
theorem Rq.eqs {wb w w' : World} {sp bM bQ n nq nq' : Nat} {M : Int → Option Ty} {f : Int → Ty} {q q' : Int → Int} {V : List Int} (h : Rq wb w sp bM bQ n nq M f q V) (hE : EqR w' bQ nq' q' V) (hk : Kp [bQ] w w') : Rq wb w' sp bM bQ n nq' M f q' V := by
  have hl := h.lt
  have hh := h.hi
  exact ⟨h.sv.kp hk ⟨by simp; omega, by simp; omega, by simp; omega⟩, hk.cell h.cell1 (by simp; omega), hE, h.hi⟩
theorem OnTop.in {f : Int → Ty} {k m : Int} {s : ByteArray} {e : Int} {l : List Ty} {X : Ty} (h : OnTop f k m s e l X) {V : List Int} (hV : ∀ x, X.hasV x = true → x ∈ V) (i : Nat) (hi : i < l.length) : ∀ x, ((l[i]'hi).app f).hasV x = true → x ∈ V := by
  intro x hx
  have hk : ¬ k = 0 := by
    intro hk
    obtain ⟨rfl, _⟩ := h.var hk
    exact absurd hi (Nat.not_lt_zero _)
  refine hV x ?_
  rw [h.has x hk, List.any_eq_true]
  exact ⟨_, List.mem_map.2 ⟨_, List.getElem_mem hi, rfl⟩, hx⟩
set_option maxHeartbeats 4000000 in
set_option maxRecDepth 100000 in
theorem compareR_any (wb : World) (sp bM bQ n : Nat) (M : Int → Option Ty) (f : Int → Ty) (V : List Int) : ∀ (N : Nat) (w : World) (nq : Nat) (q : Int → Int) (k m : Int) (s : ByteArray) (e : Int) (l : List Ty) (p : Option Addr) (cap : Nat), ((Ty.mk k m s e l).app f).count ≤ N →
    Rq wb w sp bM bQ n nq M f q V → TyIn wb [.int .i64 k, .int .i64 m, .string s, .int .i64 e, .slice p l.length cap] (.mk k m s e l) → (Ty.mk k m s e l).okm noMarks → (∀ x, ((Ty.mk k m s e l).app f).hasV x = true → x ∈ V) →
    Calls Try.prog 48 #[.pointer (some ⟨sp, 0, none⟩), .agg #[.int .i64 k, .int .i64 m, .string s, .int .i64 e, .slice p l.length cap]] w fun e' w' => CmpPost wb sp bM bQ n M f V w (((Ty.mk k m s e l).app f).cmp q).1 (((Ty.mk k m s e l).app f).cmp q).2 e' w' := by
  intro N
  induction N with
  | zero => intro w nq q k m s e l p cap hc; have := Full.count_pos ((Ty.mk k m s e l).app f); omega
  | succ N ih =>
    intro w nq q k m s e l p cap hcount hS hT hsh hV
    have hb0 := (Below.refl w.heap.size w).alloc (Nat.le_refl _) (Obj.cells #[Value.int IntKind.i64 k, Value.int IntKind.i64 m, Value.string s, Value.int IntKind.i64 e, Value.slice p l.length cap] 33)
    have hx0 := Box.new w (.int .i64 k) (.int .i64 m) (.string s) (.int .i64 e) (.slice p l.length cap)
    have Hcall : Hid _ := topR_any wb _ sp bM bQ n nq M f q V k m s e l p cap (hS.below hb0) hT hsh
    have HS : Hid (Rq wb w sp bM bQ n nq M f q V) := hS
    have Hb0 : Hid _ := hb0
    have Hx0 : Hid _ := hx0
    have Hih : Hid _ := ih
    have HV : Hid (∀ x, ((Ty.mk k m s e l).app f).hasV x = true → x ∈ V) := hV
    have Hcount : Hid (((Ty.mk k m s e l).app f).count ≤ N + 1) := hcount
    have hlt := hS.lt
    have hhi := hS.hi
    clear hb0 hx0 ih hT hsh hS hcount hV
    generalize (Ty.mk k m s e l).app f = X at *
    obtain ⟨r, hr⟩ : ∃ r, r = (X.cmp q).1 := ⟨_, rfl⟩
    obtain ⟨q2, hq2⟩ : ∃ q2, q2 = (X.cmp q).2 := ⟨_, rfl⟩
    rw [← hr, ← hq2]
    have HR0 : Hid (X.cmp q = (r, q2)) := by unfold Hid; rw [hr, hq2]
    clear hr hq2
    go_enter Try.func48, Try.ntmps48
    go_wp2_with fail
    refine Calls.mono Hcall.out ?_
    rintro e1 w1 hp
    cases hp with
    | mk k' m' s' e' l' p' cap' he ht hs hf hu hb hq9 =>
    subst he
    clear hq9
    have hX := OnTop.of HS.out.sv.agr hf hu hs
    have hBx := Box.kp (X := []) Hx0.out (Kp.of_below hb) (by simp)
    have hb1 : Below w.heap.size w w1 := Below.trans Hb0.out (hb.mono (by simp))
    obtain ⟨pe, ce, hcs, hl1, hl2, hel⟩ := ht.elem
    have Hel : Hid _ := hel
    have HX : Hid (OnTop f k' m' s' e' l' X) := hX
    have HshA : Hid (∀ i (hi : i < l'.length), (l'[i]'hi).okm noMarks) := fun i hi => okm_arg hs i hi
    have hwf := (shaped_wf ht).2.1
    have hpe : pe = p' := by simpa using (show p' = pe ∧ cap' = ce by simpa using hcs).1.symm
    subst hpe
    clear hcs hel hX hf hu hs ht hb Hcall Hx0 Hb0
    unfold maxLen at hl1
    go_upto_if 10 with (refine wpList_store5 rfl _ _ rfl rfl _ rfl rfl hBx (one5 _ _ _ _ _ _ _) ?_; intro w3 hB3 hk3; obtain ⟨z0, z1, z2, z3, z4⟩ := hB3.cells)
    have hb3 : Below w.heap.size w w3 := hb1.trans (hk3.below hb1.size (by simp))
    have hz3 := hB3.lt
    have HB3 : Hid (Box w3 w.heap.size (.int .i64 k') (.int .i64 m') (.string s') (.int .i64 e') (.slice pe l'.length cap')) := hB3
    have hRq3 := HS.out.below hb3
    clear hB3 hk3 hb1 hBx
    by_cases hk0 : k' = 0
    · obtain ⟨rfl, hXv⟩ := HX.out.var hk0
      have hmV : m' ∈ V := HV.out m' (by rw [hXv, Ty.hasV_vr]; simp)
      have hcm : (r, q2) = (true, upd q m' 1) := by rw [← HR0.out, hXv]; exact Ty.cmp_var rfl
      simp only [Prod.mk.injEq] at hcm
      have Hr : Hid (r = true) := hcm.1
      have Hq2 : Hid (q2 = upd q m' 1) := hcm.2
      obtain ⟨w7, n7, hrun, hE7, hk7⟩ := (hRq3.eq.kp (X := []) (Kp.refl _ _).drew (by simp)).store hwf hmV
      have hk37 : Kp [bQ] w3 w7 := (Kp.refl _ _).drew.trans hk7
      have HE : Hid (Rq wb w7 sp bM bQ n n7 M f (upd q m' 1) V ∧ Kp [bQ] w w7) := ⟨hRq3.eqs hE7 hk37, (Kp.of_below hb3).trans hk37⟩
      have hc1 := hRq3.cell1
      clear hE7 hk7 hk37 hRq3 hcm hXv hmV HR0
      have b0 : (k' == 0) = true := by simpa using hk0
      rw [b0]
      clear b0 hk0 z0
      go_wp2_with fail
      go_region
      all_goals go_wp2
      all_goals go_ret
      all_goals exact CmpPost.mk n7 (ret_bool Hr.out.symm) (by rw [Hq2.out]; exact HE.out.1) HE.out.2
    · have Hk0 : Hid (¬ k' = 0) := hk0
      have b0 : (k' == 0) = false := by simpa using hk0
      rw [b0]
      by_cases h3 : k' = 3
      · have b3 : (k' == 3) = true := by simpa using h3
        have h := HR0.out
        rw [HX.out.arg Hk0.out, Ty.cmp_no Hk0.out (.inl h3)] at h
        simp only [Prod.mk.injEq] at h
        have Hr : Hid (r = false) := h.1.symm
        have Hq2 : Hid (q2 = q) := h.2.symm
        clear h HR0
        clear hk0 h3
        go_wp2
        go_ret
        exact CmpPost.mk nq (ret_bool Hr.out.symm) (by rw [Hq2.out]; exact hRq3) (Kp.of_below hb3)
      · have b3 : (k' == 3) = false := by simpa using h3
        by_cases h1 : k' = 1
        · have b1 : (k' == 1) = true := by simpa using h1
          by_cases he0 : e' = 0
          · have c0 : (e' == 0) = true := by simpa using he0
            have h := HR0.out
            rw [HX.out.arg Hk0.out, Ty.cmp_no Hk0.out (.inr ⟨h1, he0⟩)] at h
            simp only [Prod.mk.injEq] at h
            have Hr : Hid (r = false) := h.1.symm
            have Hq2 : Hid (q2 = q) := h.2.symm
            clear h HR0
            clear hk0 h3 h1 he0
            go_wp2
            go_ret
            exact CmpPost.mk nq (ret_bool Hr.out.symm) (by rw [Hq2.out]; exact hRq3) (Kp.of_below hb3)
          · have c0 : (e' == 0) = false := by simpa using he0
            by_cases he2 : e' = 2
            · have c2 : (e' == 2) = true := by simpa using he2
              have h := HR0.out
              rw [HX.out.arg Hk0.out, Ty.cmp_yes Hk0.out (by omega) ⟨h1, he2⟩] at h
              simp only [Prod.mk.injEq] at h
              have Hr : Hid (r = true) := h.1.symm
              have Hq2 : Hid (q2 = q) := h.2.symm
              clear h HR0
              clear hk0 h3 h1 he0 he2
              go_wp2
              go_ret
              exact CmpPost.mk nq (ret_bool Hr.out.symm) (by rw [Hq2.out]; exact hRq3) (Kp.of_below hb3)
            · have c2 : (e' == 2) = false := by simpa using he2
              have HRL : Hid (Ty.cmpL ((l'.map (Ty.app f)).drop 0) q = (r, q2)) := by
                have h := HR0.out
                rw [HX.out.arg Hk0.out, Ty.cmp_args Hk0.out (by omega) (by omega)] at h
                exact h
              clear HR0
              have HR3 : Hid (Rq wb w3 sp bM bQ n nq M f q V) := hRq3
              clear hRq3
              clear hk0 h3 h1 he0 he2
              go_wp2_with fail
              clear b0 b3 b1 c0 c2 z0 z1 z2 z3 z4
              go_loopw [5] (fun b wr => ∃ (i : Nat) (qi : Int → Int) (ni : Nat), b = .int .i64 i ∧ i ≤ l'.length ∧ Hid (Box wr w.heap.size (.int .i64 k') (.int .i64 m') (.string s') (.int .i64 e') (.slice pe l'.length cap') ∧ Rq wb wr sp bM bQ n ni M f qi V ∧ Kp [bQ] w wr ∧ Ty.cmpL ((l'.map (Ty.app f)).drop i) qi = (r, q2))) (fun b _ => l'.length - (intOf b).toNat)
              case atStart => exact ⟨0, q, nq, rfl, by omega, HB3.out, HR3.out, Kp.of_below hb3, HRL.out⟩
              case round =>
                clear HRL HR3 HB3
                rename_i wr
                obtain ⟨i, qi, ni, rfl, hi1, HRel⟩ := hrel
                obtain ⟨r1, r2, r3, r4⟩ := HRel.out
                clear HRel
                obtain ⟨_, _, _, _, hc4⟩ := r1.cells
                have R1 : Hid (Box wr w.heap.size (.int .i64 k') (.int .i64 m') (.string s') (.int .i64 e') (.slice pe l'.length cap')) := r1
                have R2 : Hid (Rq wb wr sp bM bQ n ni M f qi V) := r2
                have R3 : Hid (Kp [bQ] w wr) := r3
                have R4 : Hid (Ty.cmpL ((l'.map (Ty.app f)).drop i) qi = (r, q2)) := r4
                have hzr := r1.lt
                clear r1 r2 r3 r4
                by_cases hi : i < l'.length
                · have hi' : (i : Int) < l'.length := by omega
                  have hbb : Below wb.heap.size wb wr := R2.out.sv.base
                  obtain ⟨b, o, k9, n9, s9, e9, l9, p9, cap9, rfl, hli, g0, g1, g2, g3, g4, hbw, hty⟩ := Hel.out i hi
                  rw [← hbb.cell (p := ⟨b, o + i * 5, none⟩) hbw] at g0
                  rw [← hbb.cell (p := ⟨b, o + i * 5 + 1, none⟩) hbw] at g1
                  rw [← hbb.cell (p := ⟨b, o + i * 5 + 2, none⟩) hbw] at g2
                  rw [← hbb.cell (p := ⟨b, o + i * 5 + 3, none⟩) hbw] at g3
                  rw [← hbb.cell (p := ⟨b, o + i * 5 + 4, none⟩) hbw] at g4
                  have hbr := Nat.lt_of_lt_of_le hbw hbb.size
                  have hls := HX.out.less i hi
                  have hsa := HshA.out i hi
                  have hVa := HX.out.in HV.out i hi
                  rw [hli] at hty hls hsa hVa
                  have Hcall : Hid _ := Hih.out wr ni qi k9 n9 s9 e9 l9 p9 cap9 (by have := Hcount.out; omega) R2.out hty hsa hVa
                  have hmi : i < (l'.map (Ty.app f)).length := by simpa using hi
                  have hgi : (l'.map (Ty.app f))[i]'hmi = (Ty.mk k9 n9 s9 e9 l9).app f := by rw [List.getElem_map, hli]
                  have Hs' : Hid ((if (((Ty.mk k9 n9 s9 e9 l9).app f).cmp qi).1 = true then Ty.cmpL ((l'.map (Ty.app f)).drop (i + 1)) (((Ty.mk k9 n9 s9 e9 l9).app f).cmp qi).2 else (false, (((Ty.mk k9 n9 s9 e9 l9).app f).cmp qi).2)) = (r, q2)) := by
                    unfold Hid
                    rw [← hgi, ← Ty.cmpL_step (l'.map (Ty.app f)) i hmi qi]
                    exact R4.out
                  generalize (((Ty.mk k9 n9 s9 e9 l9).app f).cmp qi).1 = rr at *
                  generalize (((Ty.mk k9 n9 s9 e9 l9).app f).cmp qi).2 = qq at *
                  clear hty hli R4 R2 Hih Hel hls hsa hVa hgi hmi hbb
                  go_wp2_with fail
                  refine Calls.mono Hcall.out ?_
                  rintro e w4 hp
                  cases hp with
                  | mk n4 he4 hS4 hk4 =>
                  subst he4
                  have HB4 : Hid _ := Box.kp R1.out hk4 (by simp; omega)
                  have HS4 : Hid (Rq wb w4 sp bM bQ n n4 M f qq V) := hS4
                  have HK4 : Hid (Kp [bQ] w w4) := R3.out.trans hk4
                  clear hS4 hk4 R1 R3 Hcall
                  cases rr with
                  | true =>
                    have Hn : Hid (Ty.cmpL ((l'.map (Ty.app f)).drop (i + 1)) qq = (r, q2)) := by
                      have h := Hs'.out
                      rw [if_pos rfl] at h
                      exact h
                    clear Hs'
                    go_wp2
                    exact ⟨⟨i + 1, qq, n4, by go_num, by omega, HB4.out, HS4.out, HK4.out, Hn.out⟩, by simp [intOf]; omega⟩
                  | false =>
                    have h := Hs'.out
                    rw [if_neg (by simp)] at h
                    simp only [Prod.mk.injEq] at h
                    have Hr : Hid (r = false) := h.1.symm
                    have Hq2 : Hid (q2 = qq) := h.2.symm
                    clear Hs' h
                    go_wp2
                    go_ret
                    exact CmpPost.mk n4 (ret_bool Hr.out.symm) (by rw [Hq2.out]; exact HS4.out) HK4.out
                · have hi' : ¬ (i : Int) < l'.length := by omega
                  have h := R4.out
                  rw [List.drop_of_length_le (by simp; omega)] at h
                  unfold Ty.cmpL at h
                  simp only [Prod.mk.injEq] at h
                  have Hr : Hid (r = true) := h.1.symm
                  have Hq2 : Hid (q2 = qi) := h.2.symm
                  clear h
                  go_wp2
                  go_ret
                  exact CmpPost.mk ni (ret_bool Hr.out.symm) (by rw [Hq2.out]; exact R2.out) R3.out
        · have b1 : (k' == 1) = false := by simpa using h1
          have HRL : Hid (Ty.cmpL ((l'.map (Ty.app f)).drop 0) q = (r, q2)) := by
            have h := HR0.out
            rw [HX.out.arg Hk0.out, Ty.cmp_args Hk0.out (by omega) (by omega)] at h
            exact h
          clear HR0
          have HR3 : Hid (Rq wb w3 sp bM bQ n nq M f q V) := hRq3
          clear hRq3
          clear hk0 h3 h1
          go_wp2_with fail
          clear b0 b3 b1 z0 z1 z2 z3 z4
          go_loopw [5] (fun b wr => ∃ (i : Nat) (qi : Int → Int) (ni : Nat), b = .int .i64 i ∧ i ≤ l'.length ∧ Hid (Box wr w.heap.size (.int .i64 k') (.int .i64 m') (.string s') (.int .i64 e') (.slice pe l'.length cap') ∧ Rq wb wr sp bM bQ n ni M f qi V ∧ Kp [bQ] w wr ∧ Ty.cmpL ((l'.map (Ty.app f)).drop i) qi = (r, q2))) (fun b _ => l'.length - (intOf b).toNat)
          case atStart => exact ⟨0, q, nq, rfl, by omega, HB3.out, HR3.out, Kp.of_below hb3, HRL.out⟩
          case round =>
            clear HRL HR3 HB3
            rename_i wr
            obtain ⟨i, qi, ni, rfl, hi1, HRel⟩ := hrel
            obtain ⟨r1, r2, r3, r4⟩ := HRel.out
            clear HRel
            obtain ⟨_, _, _, _, hc4⟩ := r1.cells
            have R1 : Hid (Box wr w.heap.size (.int .i64 k') (.int .i64 m') (.string s') (.int .i64 e') (.slice pe l'.length cap')) := r1
            have R2 : Hid (Rq wb wr sp bM bQ n ni M f qi V) := r2
            have R3 : Hid (Kp [bQ] w wr) := r3
            have R4 : Hid (Ty.cmpL ((l'.map (Ty.app f)).drop i) qi = (r, q2)) := r4
            have hzr := r1.lt
            clear r1 r2 r3 r4
            by_cases hi : i < l'.length
            · have hi' : (i : Int) < l'.length := by omega
              have hbb : Below wb.heap.size wb wr := R2.out.sv.base
              obtain ⟨b, o, k9, n9, s9, e9, l9, p9, cap9, rfl, hli, g0, g1, g2, g3, g4, hbw, hty⟩ := Hel.out i hi
              rw [← hbb.cell (p := ⟨b, o + i * 5, none⟩) hbw] at g0
              rw [← hbb.cell (p := ⟨b, o + i * 5 + 1, none⟩) hbw] at g1
              rw [← hbb.cell (p := ⟨b, o + i * 5 + 2, none⟩) hbw] at g2
              rw [← hbb.cell (p := ⟨b, o + i * 5 + 3, none⟩) hbw] at g3
              rw [← hbb.cell (p := ⟨b, o + i * 5 + 4, none⟩) hbw] at g4
              have hbr := Nat.lt_of_lt_of_le hbw hbb.size
              have hls := HX.out.less i hi
              have hsa := HshA.out i hi
              have hVa := HX.out.in HV.out i hi
              rw [hli] at hty hls hsa hVa
              have Hcall : Hid _ := Hih.out wr ni qi k9 n9 s9 e9 l9 p9 cap9 (by have := Hcount.out; omega) R2.out hty hsa hVa
              have hmi : i < (l'.map (Ty.app f)).length := by simpa using hi
              have hgi : (l'.map (Ty.app f))[i]'hmi = (Ty.mk k9 n9 s9 e9 l9).app f := by rw [List.getElem_map, hli]
              have Hs' : Hid ((if (((Ty.mk k9 n9 s9 e9 l9).app f).cmp qi).1 = true then Ty.cmpL ((l'.map (Ty.app f)).drop (i + 1)) (((Ty.mk k9 n9 s9 e9 l9).app f).cmp qi).2 else (false, (((Ty.mk k9 n9 s9 e9 l9).app f).cmp qi).2)) = (r, q2)) := by
                unfold Hid
                rw [← hgi, ← Ty.cmpL_step (l'.map (Ty.app f)) i hmi qi]
                exact R4.out
              generalize (((Ty.mk k9 n9 s9 e9 l9).app f).cmp qi).1 = rr at *
              generalize (((Ty.mk k9 n9 s9 e9 l9).app f).cmp qi).2 = qq at *
              clear hty hli R4 R2 Hih Hel hls hsa hVa hgi hmi hbb
              go_wp2_with fail
              refine Calls.mono Hcall.out ?_
              rintro e w4 hp
              cases hp with
              | mk n4 he4 hS4 hk4 =>
              subst he4
              have HB4 : Hid _ := Box.kp R1.out hk4 (by simp; omega)
              have HS4 : Hid (Rq wb w4 sp bM bQ n n4 M f qq V) := hS4
              have HK4 : Hid (Kp [bQ] w w4) := R3.out.trans hk4
              clear hS4 hk4 R1 R3 Hcall
              cases rr with
              | true =>
                have Hn : Hid (Ty.cmpL ((l'.map (Ty.app f)).drop (i + 1)) qq = (r, q2)) := by
                  have h := Hs'.out
                  rw [if_pos rfl] at h
                  exact h
                clear Hs'
                go_wp2
                exact ⟨⟨i + 1, qq, n4, by go_num, by omega, HB4.out, HS4.out, HK4.out, Hn.out⟩, by simp [intOf]; omega⟩
              | false =>
                have h := Hs'.out
                rw [if_neg (by simp)] at h
                simp only [Prod.mk.injEq] at h
                have Hr : Hid (r = false) := h.1.symm
                have Hq2 : Hid (q2 = qq) := h.2.symm
                clear Hs' h
                go_wp2
                go_ret
                exact CmpPost.mk n4 (ret_bool Hr.out.symm) (by rw [Hq2.out]; exact HS4.out) HK4.out
            · have hi' : ¬ (i : Int) < l'.length := by omega
              have h := R4.out
              rw [List.drop_of_length_le (by simp; omega)] at h
              unfold Ty.cmpL at h
              simp only [Prod.mk.injEq] at h
              have Hr : Hid (r = true) := h.1.symm
              have Hq2 : Hid (q2 = qi) := h.2.symm
              clear h
              go_wp2
              go_ret
              exact CmpPost.mk ni (ret_bool Hr.out.symm) (by rw [Hq2.out]; exact R2.out) R3.out
end Go.Proofs.Ytbgpjaniohpfaaa
