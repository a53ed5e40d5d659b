/-
  Is a type one that may be (properTop, proper, Proper).
-/
import Derived.Test.YtbgpjaniohpfaaaP8
import Derived.Test.YtbgpjaniohpfaaaK10
namespace Go.Proofs.Ytbgpjaniohpfaaa
open Go.RowKit Go.Deep
set_option maxHeartbeats 4000000 in
set_option maxRecDepth 100000 in
theorem properTop_any (w : World) (k n : Int) (s : ByteArray) (e : Int) (l : List Ty) (p : Option Addr) (cap : Nat) :
    Calls Try.prog 38 #[.agg #[.int .i64 k, .int .i64 n, .string s, .int .i64 e, .slice p l.length cap]] w fun r w' => r = .returned (.bool (headOf k n s e l.length)) ∧ Below w.heap.size w w' := by
  have hbel : Below w.heap.size w (w.alloc (Obj.cells #[Value.int IntKind.i64 k, Value.int IntKind.i64 n, Value.string s, Value.int IntKind.i64 e, Value.slice p l.length cap] 33)) := (Below.refl _ _).alloc (Nat.le_refl _) _
  go_enter Try.func38, Try.ntmps38
  go_upto_region 1 with fail
  go_cut [3] from 4 to 16 (fun a wx => a = .bool (plainOf n s e) ∧ wx = w.alloc (Obj.cells #[Value.int IntKind.i64 k, Value.int IntKind.i64 n, Value.string s, Value.int IntKind.i64 e, Value.slice p l.length cap] 33))
  case first =>
    cases h1 : (s.toList == [])
    · go_wp2
      go_meet
      refine ⟨?_, rfl⟩
      unfold plainOf
      rw [← empty_iff, h1]
      rfl
    · cases h2 : (n == 0)
      · go_wp2
        go_meet
        refine ⟨?_, rfl⟩
        unfold plainOf
        rw [← empty_iff, h1, h2]
        rfl
      · cases h3 : (e == 0)
        · go_wp2
          go_meet
          refine ⟨?_, rfl⟩
          unfold plainOf
          rw [← empty_iff, h1, h2, h3]
          rfl
        · go_wp2
          go_meet
          refine ⟨?_, rfl⟩
          unfold plainOf
          rw [← empty_iff, h1, h2, h3]
          rfl
  case rest =>
    obtain ⟨rfl, rfl⟩ := hcut
    by_cases hk0 : k = 0
    · have b0 := beq_t hk0
      cases hs0 : (s.toList == [])
      · have hs1 : (s.size == 0) = false := by rw [← empty_iff]; exact hs0
        have Hh : Hid (headOf k n s e l.length = false) := by
          unfold Hid headOf
          rw [if_pos hk0, hs1]; simp
        clear hk0 hs1
        go_wp2
        go_ret
        exact ⟨ret_bool Hh.out.symm, hbel⟩
      · have hs1 : (s.size == 0) = true := by rw [← empty_iff]; exact hs0
        by_cases hl0 : l.length = 0
        · have c1 : ((l.length : Int) == 0) = true := by rw [beq_iff_eq]; omega
          by_cases he0 : 0 ≤ e
          · by_cases he1 : e ≤ 1
            · have d0 := he0
              have d1 := he1
              have Hh : Hid (headOf k n s e l.length = true) := by
                unfold Hid headOf
                rw [if_pos hk0, hl0, hs1, decide_eq_true he0, decide_eq_true he1]; rfl
              clear hk0 hl0 hs1
              go_wp2
              go_ret
              exact ⟨ret_bool Hh.out.symm, hbel⟩
            · have d1 := he1
              have Hh : Hid (headOf k n s e l.length = false) := by
                unfold Hid headOf
                rw [if_pos hk0, hl0, hs1, decide_eq_true he0, decide_eq_false he1]; rfl
              clear hk0 hl0 hs1
              go_wp2
              go_ret
              exact ⟨ret_bool Hh.out.symm, hbel⟩
          · have d0 := he0
            have Hh : Hid (headOf k n s e l.length = false) := by
              unfold Hid headOf
              rw [if_pos hk0, hl0, hs1, decide_eq_false he0]; rfl
            clear hk0 hl0 hs1
            go_wp2
            go_ret
            exact ⟨ret_bool Hh.out.symm, hbel⟩
        · have c1 : ((l.length : Int) == 0) = false := by rw [beq_eq_false_iff_ne]; omega
          have c2 : (l.length == 0) = false := by rw [beq_eq_false_iff_ne]; exact hl0
          have Hh : Hid (headOf k n s e l.length = false) := by
            unfold Hid headOf
            rw [if_pos hk0, c2]; rfl
          clear hk0 hl0 c2 hs1
          go_wp2
          go_ret
          exact ⟨ret_bool Hh.out.symm, hbel⟩
    · have b0 := beq_f hk0
      by_cases hk1 : k = 1
      · have b1 := beq_t hk1
        by_cases he0 : 0 ≤ e
        · by_cases he1 : e ≤ 2
          · have d0 := he0
            have d1 := he1
            have Hh : Hid (headOf k n s e l.length = true) := by
              unfold Hid headOf
              rw [if_neg hk0, if_pos hk1, decide_eq_true he0, decide_eq_true he1]; rfl
            clear hk0 hk1
            go_wp2
            go_ret
            exact ⟨ret_bool Hh.out.symm, hbel⟩
          · have d1 := he1
            have Hh : Hid (headOf k n s e l.length = false) := by
              unfold Hid headOf
              rw [if_neg hk0, if_pos hk1, decide_eq_true he0, decide_eq_false he1]; rfl
            clear hk0 hk1
            go_wp2
            go_ret
            exact ⟨ret_bool Hh.out.symm, hbel⟩
        · have d0 := he0
          have Hh : Hid (headOf k n s e l.length = false) := by
            unfold Hid headOf
            rw [if_neg hk0, if_pos hk1, decide_eq_false he0]; rfl
          clear hk0 hk1
          go_wp2
          go_ret
          exact ⟨ret_bool Hh.out.symm, hbel⟩
      · have b1 := beq_f hk1
        cases hpl : plainOf n s e
        · by_cases hk2 : k = 2
          · have b2 := beq_t hk2
            have Hh : Hid (headOf k n s e l.length = false) := by
              unfold Hid headOf
              rw [if_neg hk0, if_neg hk1, if_pos hk2, hpl]; simp
            clear hk0 hk1 hk2
            go_wp2
            go_ret
            exact ⟨ret_bool Hh.out.symm, hbel⟩
          · have b2 := beq_f hk2
            by_cases hk3 : k = 3
            · have b3 := beq_t hk3
              have Hh : Hid (headOf k n s e l.length = false) := by
                unfold Hid headOf
                rw [if_neg hk0, if_neg hk1, if_neg hk2, if_pos hk3, hpl]; simp
              clear hk0 hk1 hk2 hk3
              go_wp2
              go_ret
              exact ⟨ret_bool Hh.out.symm, hbel⟩
            · have b3 := beq_f hk3
              have Hh : Hid (headOf k n s e l.length = false) := by
                unfold Hid headOf
                rw [if_neg hk0, if_neg hk1, if_neg hk2, if_neg hk3]
              clear hk0 hk1 hk2 hk3
              go_wp2
              go_ret
              exact ⟨ret_bool Hh.out.symm, hbel⟩
        · by_cases hk2 : k = 2
          · have b2 := beq_t hk2
            by_cases hl2 : 2 ≤ l.length
            · have c1 : (2 : Int) ≤ l.length := by omega
              have Hh : Hid (headOf k n s e l.length = true) := by
                unfold Hid headOf
                rw [if_neg hk0, if_neg hk1, if_pos hk2, hpl, decide_eq_true hl2]; rfl
              clear hk0 hk1 hk2
              go_wp2
              go_ret
              exact ⟨ret_bool Hh.out.symm, hbel⟩
            · have c1 : ¬ (2 : Int) ≤ l.length := by omega
              have Hh : Hid (headOf k n s e l.length = false) := by
                unfold Hid headOf
                rw [if_neg hk0, if_neg hk1, if_pos hk2, hpl, decide_eq_false hl2]; rfl
              clear hk0 hk1 hk2
              go_wp2
              go_ret
              exact ⟨ret_bool Hh.out.symm, hbel⟩
          · have b2 := beq_f hk2
            by_cases hk3 : k = 3
            · have b3 := beq_t hk3
              by_cases hl2 : l.length = 2
              · have c1 : ((l.length : Int) == 2) = true := by rw [beq_iff_eq]; omega
                have Hh : Hid (headOf k n s e l.length = true) := by
                  unfold Hid headOf
                  rw [if_neg hk0, if_neg hk1, if_neg hk2, if_pos hk3, hl2, hpl]; rfl
                clear hk0 hk1 hk2 hk3 hl2
                go_wp2
                go_ret
                exact ⟨ret_bool Hh.out.symm, hbel⟩
              · have c1 : ((l.length : Int) == 2) = false := by rw [beq_eq_false_iff_ne]; omega
                have c2 : (l.length == 2) = false := by rw [beq_eq_false_iff_ne]; exact hl2
                have Hh : Hid (headOf k n s e l.length = false) := by
                  unfold Hid headOf
                  rw [if_neg hk0, if_neg hk1, if_neg hk2, if_pos hk3, c2]; rfl
                clear hk0 hk1 hk2 hk3 hl2 c2
                go_wp2
                go_ret
                exact ⟨ret_bool Hh.out.symm, hbel⟩
            · have b3 := beq_f hk3
              have Hh : Hid (headOf k n s e l.length = false) := by
                unfold Hid headOf
                rw [if_neg hk0, if_neg hk1, if_neg hk2, if_neg hk3]
              clear hk0 hk1 hk2 hk3
              go_wp2
              go_ret
              exact ⟨ret_bool Hh.out.symm, hbel⟩
theorem headOf_shaped {k n : Int} {s : ByteArray} {e : Int} {l : List Ty} (h : headOf k n s e l.length = false) : (Ty.mk k n s e l).shaped = false := by
  rw [Ty.shaped_eq, h]
  rfl
/-- What is left where it was asked whether a type may be. -/
inductive PropPost (w : World) (L : Nat) (T : Ty) (c : Int) (e' : Ending) (w' : World) : Prop
  | yes (hc : T.count ≤ c) (hs : T.shaped = true) (he : e' = .returned (.bool true)) (hb : IntBox w' L (c - T.count)) (hk : Kp [L] w w') : PropPost w L T c e' w'
  | no (c' : Int) (hn : ¬ (T.count ≤ c ∧ T.shaped = true)) (he : e' = .returned (.bool false)) (hb : IntBox w' L c') (hk : Kp [L] w w') : PropPost w L T c e' w'
set_option maxHeartbeats 4000000 in
set_option maxRecDepth 100000 in
theorem properIn_any (wb : World) (L : Nat) (hL : wb.heap.size ≤ L) : ∀ (T : Ty) (w : World) (k n : Int) (s : ByteArray) (e : Int) (l : List Ty) (p : Option Addr) (cap : Nat) (c : Int), T = .mk k n s e l → TyIn wb [.int .i64 k, .int .i64 n, .string s, .int .i64 e, .slice p l.length cap] (.mk k n s e l) → Below wb.heap.size wb w → IntBox w L c → 0 ≤ c → c ≤ 400 →
    Calls Try.prog 29 #[.agg #[.int .i64 k, .int .i64 n, .string s, .int .i64 e, .slice p l.length cap], .pointer (some ⟨L, 0, none⟩)] w fun e' w' => PropPost w L T c e' w' := by
  intro T
  induction T using Ty.ind with
  | h k n s e l ih =>
    intro w k9 n9 s9 e9 l9 p cap c hTe hT hbw hc h0 h1
    cases hTe
    have hLlt := hc.lt
    have hcell := ((hc.kp (Kp.alloc [] w (Obj.cells #[Value.int IntKind.i64 k, Value.int IntKind.i64 n, Value.string s, Value.int IntKind.i64 e, Value.slice p l.length cap] 33)) (by simp)).cell)
    have hIB : Hid (IntBox (w.alloc (Obj.cells #[Value.int IntKind.i64 k, Value.int IntKind.i64 n, Value.string s, Value.int IntKind.i64 e, Value.slice p l.length cap] 33)) L c) := (hc.kp (Kp.alloc [] w _) (by simp))
    have hTB := (Box.new w (.int .i64 k) (.int .i64 n) (.string s) (.int .i64 e) (.slice p l.length cap))
    obtain ⟨pp, cp, hcs, hl1, hl2, hel⟩ := hT.elem
    obtain ⟨rfl, rfl⟩ : p = pp ∧ cap = cp := by simpa using hcs
    have Hel : Hid _ := hel
    have Hih : Hid _ := ih
    have Hbw : Hid (Below wb.heap.size wb w) := hbw
    have hbs := hbw.size
    have HX : Hid ((Ty.mk k n s e l).count = 1 + Ty.countL l) := by unfold Hid; rw [Ty.count]
    have HXs : Hid ((Ty.mk k n s e l).shaped = (headOf k n s e l.length && Ty.shapedL (l.drop 0))) := Ty.shaped_eq k n s e l
    unfold maxLen at hl1
    generalize hXX : Ty.mk k n s e l = X at *
    have HXX : Hid (Ty.mk k n s e l = X) := hXX
    clear hel ih hT hcs hbw hc hXX
    go_enter Try.func29, Try.ntmps29
    by_cases hneg : c - 1 < 0
    · go_wp2_with (refine wpList_store1 rfl _ _ rfl rfl _ (c - 1) rfl rfl hIB.out ?_; intro w3 hE3 hk3; have hx0 := hE3.cell)
      have hcp := Full.count_pos X
      go_ret
      exact PropPost.no (c - 1) (fun h => by omega) rfl hE3 ((Kp.alloc _ w _).trans hk3)
    · go_wp2_with (refine wpList_store1 rfl _ _ rfl rfl _ (c - 1) rfl rfl hIB.out ?_; intro w3 hE3 hk3; have hx0 := hE3.cell; obtain ⟨t0, t1, t2, t3, t4⟩ := (hTB.kp hk3 (by simp <;> omega)).cells)
      refine (properTop_any w3 k n s e l p cap).mono ?_
      rintro e9 w4 ⟨rfl, hb4⟩
      have hE4 : IntBox w4 L (c - 1) := hE3.kp (X := []) (Kp.of_below hb4) (by simp)
      have hk4 : Kp [L] w w4 := ((Kp.alloc _ w _).trans hk3).trans (Kp.of_below hb4)
      have hT4 := (hTB.kp hk3 (by simp <;> omega)).kp (X := []) (Kp.of_below hb4) (by simp)
      have HE4 : Hid (IntBox w4 L (c - 1)) := hE4
      have HK4 : Hid (Kp [L] w w4) := hk4
      clear hE3 hk3 hx0 t0 t1 t2 t3 t4 hb4 hcell hIB hTB hE4 hk4
      cases hd : headOf k n s e l.length with
      | false =>
        have Hd : Hid (X.shaped = false) := by unfold Hid; rw [HXs.out, hd]; rfl
        clear hd
        go_wp2
        go_ret
        exact PropPost.no (c - 1) (fun h => by rw [Hd.out] at h; exact absurd h.2 (by simp)) rfl HE4.out HK4.out
      | true =>
        have HXs2 : Hid (X.shaped = Ty.shapedL (l.drop 0)) := by unfold Hid; rw [HXs.out, hd]; rfl
        obtain ⟨t0, t1, t2, t3, t4⟩ := hT4.cells
        clear hd HXs
        go_wp2_with fail
        clear t0 t1 t2 t3 t4
        go_loopg [24] l.length (fun g iv wr => ∃ (i : Nat) (ci : Int), iv = .int .i64 i ∧ i ≤ l.length ∧ g = l.length - i ∧ 0 ≤ ci ∧ ci ≤ 400 ∧ Hid (ci - Ty.countL (l.drop i) = c - X.count ∧ X.shaped = Ty.shapedL (l.drop i) ∧ IntBox wr L ci ∧ Kp [L] w wr))
        case atStart => exact ⟨0, c - 1, rfl, by omega, by omega, by omega, by omega, by rw [List.drop_zero]; have := HX.out; omega, HXs2.out, HE4.out, HK4.out⟩
        case round =>
          clear HE4 HK4 HXs2
          obtain ⟨i, ci, rfl, hi1, rfl, hc0, hc1, HR⟩ := hrel
          by_cases hi : i < l.length
          · have hi' : (i : Int) < l.length := by omega
            obtain ⟨b, o, k2, n2, s2, e2, l2, p2, cap2, rfl, hli, g0, g1, g2, g3, g4, hbl, hty⟩ := Hel.out i hi
            obtain ⟨r1, r2, r3, r4⟩ := HR.out
            clear HR
            have hb := Hbw.out.trans (r4.below Hbw.out.size (by simp <;> omega))
            rw [← hb.cell (p := ⟨b, o + i * 5, none⟩) hbl] at g0
            rw [← hb.cell (p := ⟨b, o + i * 5 + 1, none⟩) hbl] at g1
            rw [← hb.cell (p := ⟨b, o + i * 5 + 2, none⟩) hbl] at g2
            rw [← hb.cell (p := ⟨b, o + i * 5 + 3, none⟩) hbl] at g3
            rw [← hb.cell (p := ⟨b, o + i * 5 + 4, none⟩) hbl] at g4
            have hbr := Nat.lt_of_lt_of_le hbl hb.size
            have hcnt := Ty.countL_step l i hi
            have hshd := Ty.shapedL_step l i hi
            have hka : Kp [] wr (wr.alloc (Obj.cells #[Value.int IntKind.i64 k2, Value.int IntKind.i64 n2, Value.string s2, Value.int IntKind.i64 e2, Value.slice p2 l2.length cap2] 33)) := Kp.alloc _ _ _
            have hcall := Hih.out i hi _ k2 n2 s2 e2 l2 p2 cap2 ci hli (hli ▸ hty) (hb.trans (hka.below hb.size (by simp))) (r3.kp hka (by simp)) hc0 hc1
            generalize l[i]'hi = A at *
            have Hcall : Hid _ := hcall
            have R1 : Hid (ci - Ty.countL (l.drop i) = c - X.count) := r1
            have R2 : Hid (X.shaped = Ty.shapedL (l.drop i)) := r2
            have R4 : Hid (Kp [L] w (wr.alloc (Obj.cells #[Value.int IntKind.i64 k2, Value.int IntKind.i64 n2, Value.string s2, Value.int IntKind.i64 e2, Value.slice p2 l2.length cap2] 33))) := r4.trans (Kp.alloc _ _ _)
            have Hcnt : Hid (Ty.countL (l.drop i) = A.count + Ty.countL (l.drop (i + 1))) := hcnt
            have Hshd : Hid (Ty.shapedL (l.drop i) = (A.shaped && Ty.shapedL (l.drop (i + 1)))) := hshd
            clear hcall r1 r2 r3 r4 hcnt hshd hty hli hb hka
            go_wp2_with fail
            refine Calls.mono Hcall.out ?_
            rintro e10 w6 hp
            cases hp with
            | yes u1 u2 u3 u4 u5 =>
              subst u3
              have q1 : ci - A.count - Ty.countL (l.drop (i + 1)) = c - X.count := by have := R1.out; have := Hcnt.out; omega
              have q2 : 0 ≤ ci - A.count := by omega
              have q3 : ci - A.count ≤ 400 := by omega
              have q5 := R4.out.trans u5
              have q6 : X.shaped = Ty.shapedL (l.drop (i + 1)) := by rw [R2.out, Hshd.out, u2]; rfl
              generalize ci - (A.count : Int) = c7 at *
              have Q1 : Hid (c7 - Ty.countL (l.drop (i + 1)) = c - X.count ∧ X.shaped = Ty.shapedL (l.drop (i + 1)) ∧ IntBox w6 L c7 ∧ Kp [L] w w6) := ⟨q1, q6, u4, q5⟩
              clear q1 q5 q6 u1 u2 u4 u5 Hcall Hcnt Hshd R1 R2 g0 g1 g2 g3 g4
              go_wp2
              go_roundg (l.length - (i + 1))
              case measure => omega
              case rel => exact ⟨i + 1, c7, by first | rfl | (congr 1; omega) | go_num, by omega, rfl, q2, q3, Q1⟩
            | no c6 u1 u2 u3 u4 =>
              subst u2
              have Q1 : Hid (¬ (X.count ≤ c ∧ X.shaped = true)) := by
                rintro ⟨h2, h3⟩
                refine u1 ⟨?_, ?_⟩
                · have := R1.out; have := Hcnt.out; omega
                · rw [R2.out, Hshd.out, Bool.and_eq_true] at h3
                  exact h3.1
              have Q2 : Hid (IntBox w6 L c6) := u3
              have q5 := R4.out.trans u4
              clear u1 u3 u4 Hcall Hcnt Hshd R1 R2 g0 g1 g2 g3 g4
              go_wp2
              go_ret
              exact PropPost.no c6 Q1.out rfl Q2.out q5
          · have hi' : ¬ (i : Int) < l.length := by omega
            go_wp2
            go_ret
            obtain ⟨r1, r2, r3, r4⟩ := HR.out
            rw [List.drop_of_length_le (by omega)] at r1 r2
            have r1' : ci = c - X.count := by unfold Ty.countL at r1; simpa using r1
            subst r1'
            exact PropPost.yes (by omega) (by rw [r2]; unfold Ty.shapedL; rfl) rfl r3 r4
mutual
theorem Ty.parts_of_count : ∀ (T : Ty) (m : Int), T.count ≤ m → T.parts m = T.count
  | .mk _ _ _ _ l, m, h => by
    unfold Ty.parts Ty.count
    unfold Ty.count at h
    have := Ty.partsL_of_count l 1 m (by omega)
    rw [this]
    omega
theorem Ty.partsL_of_count : ∀ (l : List Ty) (n m : Int), n + Ty.countL l ≤ m → Ty.partsL l n m = n + Ty.countL l
  | [], n, m, _ => by unfold Ty.partsL Ty.countL; omega
  | a :: l, n, m, h => by
    unfold Ty.countL at h
    have hp := Full.count_pos a
    unfold Ty.partsL Ty.countL
    rw [if_pos (by omega), Ty.parts_of_count a (m - n) (by omega), Ty.partsL_of_count l (n + a.count) m (by omega)]
    omega
end
theorem Ty.proper_iff (T : Ty) : T.proper = true ↔ (T.count ≤ 400 ∧ T.shaped = true) := by
  unfold Ty.proper
  rw [Bool.and_eq_true, decide_eq_true_iff]
  constructor
  · rintro ⟨h1, h2⟩
    have := Ty.parts_count T 400 h1
    exact ⟨by omega, h2⟩
  · rintro ⟨h1, h2⟩
    have := Ty.parts_of_count T 400 (by omega)
    exact ⟨by omega, h2⟩
set_option maxHeartbeats 4000000 in
set_option maxRecDepth 100000 in
theorem properP_any (wb w : World) (k n : Int) (s : ByteArray) (e : Int) (l : List Ty) (p : Option Addr) (cap : Nat) (hT : TyIn wb [.int .i64 k, .int .i64 n, .string s, .int .i64 e, .slice p l.length cap] (.mk k n s e l)) (hb : Below wb.heap.size wb w) :
    Calls Try.prog 13 #[.agg #[.int .i64 k, .int .i64 n, .string s, .int .i64 e, .slice p l.length cap]] w fun e' w' => e' = .returned (.bool (Ty.mk k n s e l).proper) ∧ Below w.heap.size w w' := by
  have hbs := hb.size
  have hkk : Kp [] w ((w.alloc (Obj.cells #[Value.int IntKind.i64 k, Value.int IntKind.i64 n, Value.string s, Value.int IntKind.i64 e, Value.slice p l.length cap] 33)).alloc (Obj.cells #[.int .i64 400] 3)) := (Kp.alloc _ _ _).trans (Kp.alloc _ _ _)
  have hib := IntBox.new (w.alloc (Obj.cells #[Value.int IntKind.i64 k, Value.int IntKind.i64 n, Value.string s, Value.int IntKind.i64 e, Value.slice p l.length cap] 33)) 400
  rw [heap_size_alloc] at hib
  have hcall := properIn_any wb (w.heap.size + 1) (by omega) (.mk k n s e l) _ k n s e l p cap 400 rfl hT (hb.trans (hkk.below hb.size (by simp))) hib (by omega) (by omega)
  have Hcall : Hid _ := hcall
  have Hkk : Hid _ := hkk
  generalize hR : (Ty.mk k n s e l).proper = R
  have HR : Hid ((Ty.mk k n s e l).proper = R) := hR
  clear hT hb hcall hkk hib hR
  go_enter Try.func13, Try.ntmps13
  go_wp2_with fail
  refine Calls.mono Hcall.out ?_
  rintro e10 w6 hp
  cases hp with
  | yes u1 u2 u3 u4 u5 =>
    subst u3
    have Hq : Hid (true = R) := by unfold Hid; rw [← HR.out]; exact ((Ty.proper_iff _).2 ⟨by omega, u2⟩).symm
    have Hb : Hid (Below w.heap.size w w6) := (Kp.trans (Kp.mono Hkk.out (by simp)) u5).below (Nat.le_refl _) (by simp)
    clear u1 u2 u4 u5
    go_wp2
    go_ret
    exact ⟨ret_bool Hq.out, Hb.out⟩
  | no c6 u1 u2 u3 u4 =>
    subst u2
    have Hq : Hid (false = R) := by
      unfold Hid
      rw [← HR.out]
      cases hc : (Ty.mk k n s e l).proper with
      | false => rfl
      | true =>
        obtain ⟨h1, h2⟩ := (Ty.proper_iff _).1 hc
        exact absurd ⟨by omega, h2⟩ u1
    have Hb : Hid (Below w.heap.size w w6) := (Kp.trans (Kp.mono Hkk.out (by simp)) u4).below (Nat.le_refl _) (by simp)
    clear u1 u3 u4
    go_wp2
    go_ret
    exact ⟨ret_bool Hq.out, Hb.out⟩
end Go.Proofs.Ytbgpjaniohpfaaa
