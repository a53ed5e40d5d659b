/-
  The document's own solver: nothing stands for anything (NewSub); what variables say of themselves (Marked).
-/
import Derived.Test.YtbgpjaniohpfaaaR5
import Derived.Test.YtbgpjaniohpfaaaK17
namespace Go.Proofs.Ytbgpjaniohpfaaa
open Go.RowKit Go.Deep
inductive MarkPost (wb : World) (sp bM bQ n : Nat) (M : Int → Option Ty) (f : Int → Ty) (V : List Int) (w : World) (q' : Int → Int) (e' : Ending) (w' : World) : Prop
  | mk (nq' : Nat) (he : e' = .returned (.tuple #[])) (hS : Rq wb w' sp bM bQ n nq' M f q' V) (hk : Kp [bQ] w w') : MarkPost wb sp bM bQ n M f V w q' e' w'
theorem upd_self (q : Int → Int) (n : Int) : upd q n (q n) = q := by
  funext y
  by_cases hy : y = n
  · subst hy; rw [upd_same]
  · rw [upd_other _ _ hy]
theorem shaped_bit {m : Int} {s : ByteArray} {e : Int} {l : List Ty} (h : (Ty.mk 0 m s e l).okm noMarks) : (e = 0 ∨ e = 1) ∧ l = [] := by
  have h := h.1
  unfold Ty.shaped at h
  rw [if_pos rfl] at h
  simp only [Bool.and_eq_true, decide_eq_true_eq, beq_iff_eq] at h
  exact ⟨by omega, List.length_eq_zero_iff.1 h.1.1.1.1⟩
set_option maxHeartbeats 4000000 in
set_option maxRecDepth 100000 in
theorem markedR_any (wb : World) (sp bM bQ n : Nat) (M : Int → Option Ty) (f : Int → Ty) (V : List Int) : ∀ (T : Ty) (w : World) (nq : Nat) (q : Int → Int) (k m : Int) (s : ByteArray) (e : Int) (l : List Ty) (p : Option Addr) (cap : Nat), T = .mk k m s e l →
    Rq wb w sp bM bQ n nq M f q V → TyIn wb [.int .i64 k, .int .i64 m, .string s, .int .i64 e, .slice p l.length cap] (.mk k m s e l) → T.okm noMarks → (∀ x, T.hasV x = true → x ∈ V) →
    Calls Try.prog 23 #[.pointer (some ⟨sp, 0, none⟩), .agg #[.int .i64 k, .int .i64 m, .string s, .int .i64 e, .slice p l.length cap]] w fun e' w' => MarkPost wb sp bM bQ n M f V w (T.marks q) e' w' := by
  intro T
  induction T using Ty.ind with
  | h k m s e l ih =>
    intro w nq q k8 m8 s8 e8 l8 p cap hTe hS hT hsh hV
    cases hTe
    have hb0 := (Below.refl w.heap.size w).alloc (Nat.le_refl _) (Obj.cells #[Value.int IntKind.i64 k, Value.int IntKind.i64 m, Value.string s, Value.int IntKind.i64 e, Value.slice p l.length cap] 33)
    have HBx : Hid _ := Box.new w (.int .i64 k) (.int .i64 m) (.string s) (.int .i64 e) (.slice p l.length cap)
    have hR0 := hS.below hb0
    have hlt := hS.lt
    have hhi := hS.hi
    obtain ⟨pe, ce, hcs, hl1, hl2, hel⟩ := hT.elem
    obtain ⟨rfl, rfl⟩ : p = pe ∧ cap = ce := by simpa using hcs
    have Hel : Hid _ := hel
    have Hih : Hid _ := ih
    have hwf := (shaped_wf hT).2.1
    unfold maxLen at hl1
    have HshA : Hid (∀ i (hi : i < l.length), (l[i]'hi).okm noMarks) := fun i hi => okm_arg hsh i hi
    have HVA : Hid (∀ i (hi : i < l.length), ∀ x, (l[i]'hi).hasV x = true → x ∈ V) := by
      intro i hi x hx
      refine hV x ?_
      by_cases hk : k = 0
      · subst hk
        obtain ⟨_, rfl⟩ := shaped_bit hsh
        exact absurd hi (Nat.not_lt_zero _)
      · rw [Ty.hasV_mk hk, List.any_eq_true]
        exact ⟨_, List.getElem_mem hi, hx⟩
    obtain ⟨q2, hq2⟩ : ∃ q2, q2 = (Ty.mk k m s e l).marks q := ⟨_, rfl⟩
    rw [← hq2]
    by_cases hk0 : k = 0
    · have b0 : (k == 0) = true := by simpa using hk0
      have hsh0 := hsh
      rw [hk0] at hsh0
      obtain ⟨he, hl0⟩ := shaped_bit hsh0
      have hmV : m ∈ V := hV m (by rw [Ty.hasV_var hk0]; simp)
      rw [Ty.marks, if_pos hk0] at hq2
      have hbit := hS.eq.bit m
      by_cases he1 : e = 1
      · have b1 : (e == 1) = true := by simpa using he1
        rw [he1, show max (q m) 1 = 1 by omega] at hq2
        obtain ⟨w7, n7, hrun, hE7, hk7⟩ := (hR0.eq.kp (X := []) (Kp.refl _ _).drew (by simp)).store hwf hmV
        have hk37 : Kp [bQ] (w.alloc (Obj.cells #[Value.int IntKind.i64 k, Value.int IntKind.i64 m, Value.string s, Value.int IntKind.i64 e, Value.slice p l.length cap] 33)) w7 := (Kp.refl _ _).drew.trans hk7
        have HRq : Hid (Rq wb w7 sp bM bQ n n7 M f (upd q m 1) V) := hR0.eqs hE7 hk37
        have HKp : Hid (Kp [bQ] w w7) := (Kp.of_below hb0).trans hk37
        have HBx7 : Hid _ := Box.kp HBx.out hk37 (by simp; omega)
        have HRL : Hid (Ty.marksL (l.drop 0) (upd q m 1) = q2) := by
          unfold Hid
          rw [hl0, hq2, List.drop_zero]
          unfold Ty.marksL
          rfl
        have hc1 := hR0.cell1
        clear hq2 hR0 hb0 hS hT hsh hV hel ih hcs hE7 hk7 hk37 he hl0 hmV hbit he1 hsh0 hk0 HBx
        have HBx : Hid _ := HBx7.out
        clear HBx7
        go_enter Try.func23, Try.ntmps23
        go_wp2_with fail
        go_region
        all_goals go_wp2_with fail
        all_goals clear b0 b1 hc1 hrun
        go_loopw [4] (fun b wr => ∃ (i : Nat) (qi : Int → Int) (ni : Nat), b = .int .i64 i ∧ i ≤ l.length ∧ Hid (Box wr w.heap.size (.int .i64 k) (.int .i64 m) (.string s) (.int .i64 e) (.slice p l.length cap) ∧ Rq wb wr sp bM bQ n ni M f qi V ∧ Kp [bQ] w wr ∧ Ty.marksL (l.drop i) qi = q2)) (fun b _ => l.length - (intOf b).toNat)
        case atStart => exact ⟨0, _, _, rfl, by omega, HBx.out, HRq.out, HKp.out, HRL.out⟩
        case round =>
          clear HBx HRq HKp HRL
          rename_i wr
          obtain ⟨i, qi, ni, rfl, hi1, HRel⟩ := hrel
          obtain ⟨r1, r2, r3, r4⟩ := HRel.out
          clear HRel
          obtain ⟨_, _, _, _, hc4⟩ := r1.cells
          have R1 : Hid (Box wr w.heap.size (.int .i64 k) (.int .i64 m) (.string s) (.int .i64 e) (.slice p l.length cap)) := r1
          have R2 : Hid (Rq wb wr sp bM bQ n ni M f qi V) := r2
          have R3 : Hid (Kp [bQ] w wr) := r3
          have R4 : Hid (Ty.marksL (l.drop i) qi = q2) := r4
          have hzr := r1.lt
          clear r1 r2 r3 r4
          by_cases hi : i < l.length
          · have hi' : (i : Int) < l.length := by omega
            have hbb : Below wb.heap.size wb wr := R2.out.sv.base
            obtain ⟨b, o, k9, n9, s9, e9, l9, p9, cap9, rfl, hli, g0, g1, g2, g3, g4, hbw, hty⟩ := Hel.out i hi
            rw [← hbb.cell (p := ⟨b, o + i * 5, none⟩) hbw] at g0
            rw [← hbb.cell (p := ⟨b, o + i * 5 + 1, none⟩) hbw] at g1
            rw [← hbb.cell (p := ⟨b, o + i * 5 + 2, none⟩) hbw] at g2
            rw [← hbb.cell (p := ⟨b, o + i * 5 + 3, none⟩) hbw] at g3
            rw [← hbb.cell (p := ⟨b, o + i * 5 + 4, none⟩) hbw] at g4
            have hbr := Nat.lt_of_lt_of_le hbw hbb.size
            have hsa := HshA.out i hi
            have hVa := HVA.out i hi
            have hst := R4.out
            rw [Ty.marksL_step l i hi] at hst
            rw [hli] at hty
            have Hcall : Hid _ := Hih.out i hi wr ni qi k9 n9 s9 e9 l9 p9 cap9 hli R2.out hty hsa hVa
            have Hst : Hid (Ty.marksL (l.drop (i + 1)) ((l[i]'hi).marks qi) = q2) := hst
            generalize (l[i]'hi).marks qi = qq at *
            clear hty hli hst R4 R2 Hih Hel hsa hVa hbb
            go_wp2_with fail
            refine Calls.mono Hcall.out ?_
            rintro e w4 hp
            cases hp with
            | mk n4 he4 hS4 hk4 =>
            subst he4
            have HB4 : Hid _ := Box.kp R1.out hk4 (by simp; omega)
            have HS4 : Hid (Rq wb w4 sp bM bQ n n4 M f qq V) := hS4
            have HK4 : Hid (Kp [bQ] w w4) := R3.out.trans hk4
            clear hS4 hk4 R1 R3 Hcall
            go_wp2
            exact ⟨⟨i + 1, qq, n4, by go_num, by omega, HB4.out, HS4.out, HK4.out, Hst.out⟩, by simp [intOf]; omega⟩
          · have hi' : ¬ (i : Int) < l.length := by omega
            have h := R4.out
            rw [List.drop_of_length_le (by omega)] at h
            unfold Ty.marksL at h
            have Hq2 : Hid (q2 = qi) := h.symm
            clear h
            go_wp2
            go_end0
            exact MarkPost.mk ni rfl (by rw [Hq2.out]; exact R2.out) R3.out
      · have b1 : (e == 1) = false := by simpa using he1
        have hz : e = 0 := by omega
        rw [hz, show max (q m) 0 = q m by omega, upd_self] at hq2
        have HRq : Hid _ := hR0
        have HKp : Hid (Kp [bQ] w _) := Kp.of_below hb0
        have HRL : Hid (Ty.marksL (l.drop 0) q = q2) := by
          unfold Hid
          rw [hl0, hq2, List.drop_zero]
          unfold Ty.marksL
          rfl
        clear hq2 hR0 hb0 hS hT hsh hV hel ih hcs he hl0 hmV hbit he1 hsh0 hk0 hz
        go_enter Try.func23, Try.ntmps23
        go_wp2_with fail
        generalize w.alloc (Obj.cells #[Value.int IntKind.i64 k, Value.int IntKind.i64 m, Value.string s, Value.int IntKind.i64 e, Value.slice p l.length cap] 33) = w0 at *
        clear b0 b1
        go_loopw [4] (fun b wr => ∃ (i : Nat) (qi : Int → Int) (ni : Nat), b = .int .i64 i ∧ i ≤ l.length ∧ Hid (Box wr w.heap.size (.int .i64 k) (.int .i64 m) (.string s) (.int .i64 e) (.slice p l.length cap) ∧ Rq wb wr sp bM bQ n ni M f qi V ∧ Kp [bQ] w wr ∧ Ty.marksL (l.drop i) qi = q2)) (fun b _ => l.length - (intOf b).toNat)
        case atStart => exact ⟨0, _, _, rfl, by omega, HBx.out, HRq.out, HKp.out, HRL.out⟩
        case round =>
          clear HBx HRq HKp HRL
          rename_i wr
          obtain ⟨i, qi, ni, rfl, hi1, HRel⟩ := hrel
          obtain ⟨r1, r2, r3, r4⟩ := HRel.out
          clear HRel
          obtain ⟨_, _, _, _, hc4⟩ := r1.cells
          have R1 : Hid (Box wr w.heap.size (.int .i64 k) (.int .i64 m) (.string s) (.int .i64 e) (.slice p l.length cap)) := r1
          have R2 : Hid (Rq wb wr sp bM bQ n ni M f qi V) := r2
          have R3 : Hid (Kp [bQ] w wr) := r3
          have R4 : Hid (Ty.marksL (l.drop i) qi = q2) := r4
          have hzr := r1.lt
          clear r1 r2 r3 r4
          by_cases hi : i < l.length
          · have hi' : (i : Int) < l.length := by omega
            have hbb : Below wb.heap.size wb wr := R2.out.sv.base
            obtain ⟨b, o, k9, n9, s9, e9, l9, p9, cap9, rfl, hli, g0, g1, g2, g3, g4, hbw, hty⟩ := Hel.out i hi
            rw [← hbb.cell (p := ⟨b, o + i * 5, none⟩) hbw] at g0
            rw [← hbb.cell (p := ⟨b, o + i * 5 + 1, none⟩) hbw] at g1
            rw [← hbb.cell (p := ⟨b, o + i * 5 + 2, none⟩) hbw] at g2
            rw [← hbb.cell (p := ⟨b, o + i * 5 + 3, none⟩) hbw] at g3
            rw [← hbb.cell (p := ⟨b, o + i * 5 + 4, none⟩) hbw] at g4
            have hbr := Nat.lt_of_lt_of_le hbw hbb.size
            have hsa := HshA.out i hi
            have hVa := HVA.out i hi
            have hst := R4.out
            rw [Ty.marksL_step l i hi] at hst
            rw [hli] at hty
            have Hcall : Hid _ := Hih.out i hi wr ni qi k9 n9 s9 e9 l9 p9 cap9 hli R2.out hty hsa hVa
            have Hst : Hid (Ty.marksL (l.drop (i + 1)) ((l[i]'hi).marks qi) = q2) := hst
            generalize (l[i]'hi).marks qi = qq at *
            clear hty hli hst R4 R2 Hih Hel hsa hVa hbb
            go_wp2_with fail
            refine Calls.mono Hcall.out ?_
            rintro e w4 hp
            cases hp with
            | mk n4 he4 hS4 hk4 =>
            subst he4
            have HB4 : Hid _ := Box.kp R1.out hk4 (by simp; omega)
            have HS4 : Hid (Rq wb w4 sp bM bQ n n4 M f qq V) := hS4
            have HK4 : Hid (Kp [bQ] w w4) := R3.out.trans hk4
            clear hS4 hk4 R1 R3 Hcall
            go_wp2
            exact ⟨⟨i + 1, qq, n4, by go_num, by omega, HB4.out, HS4.out, HK4.out, Hst.out⟩, by simp [intOf]; omega⟩
          · have hi' : ¬ (i : Int) < l.length := by omega
            have h := R4.out
            rw [List.drop_of_length_le (by omega)] at h
            unfold Ty.marksL at h
            have Hq2 : Hid (q2 = qi) := h.symm
            clear h
            go_wp2
            go_end0
            exact MarkPost.mk ni rfl (by rw [Hq2.out]; exact R2.out) R3.out
    · have b0 : (k == 0) = false := by simpa using hk0
      have HRq : Hid _ := hR0
      have HKp : Hid (Kp [bQ] w _) := Kp.of_below hb0
      have HRL : Hid (Ty.marksL (l.drop 0) q = q2) := by
        unfold Hid
        rw [hq2, Ty.marks, if_neg hk0, List.drop_zero]
      clear hq2 hR0 hb0 hS hT hsh hV hel ih hcs hk0
      go_enter Try.func23, Try.ntmps23
      go_wp2_with fail
      generalize w.alloc (Obj.cells #[Value.int IntKind.i64 k, Value.int IntKind.i64 m, Value.string s, Value.int IntKind.i64 e, Value.slice p l.length cap] 33) = w0 at *
      clear b0
      go_loopw [4] (fun b wr => ∃ (i : Nat) (qi : Int → Int) (ni : Nat), b = .int .i64 i ∧ i ≤ l.length ∧ Hid (Box wr w.heap.size (.int .i64 k) (.int .i64 m) (.string s) (.int .i64 e) (.slice p l.length cap) ∧ Rq wb wr sp bM bQ n ni M f qi V ∧ Kp [bQ] w wr ∧ Ty.marksL (l.drop i) qi = q2)) (fun b _ => l.length - (intOf b).toNat)
      case atStart => exact ⟨0, _, _, rfl, by omega, HBx.out, HRq.out, HKp.out, HRL.out⟩
      case round =>
        clear HBx HRq HKp HRL
        rename_i wr
        obtain ⟨i, qi, ni, rfl, hi1, HRel⟩ := hrel
        obtain ⟨r1, r2, r3, r4⟩ := HRel.out
        clear HRel
        obtain ⟨_, _, _, _, hc4⟩ := r1.cells
        have R1 : Hid (Box wr w.heap.size (.int .i64 k) (.int .i64 m) (.string s) (.int .i64 e) (.slice p l.length cap)) := r1
        have R2 : Hid (Rq wb wr sp bM bQ n ni M f qi V) := r2
        have R3 : Hid (Kp [bQ] w wr) := r3
        have R4 : Hid (Ty.marksL (l.drop i) qi = q2) := r4
        have hzr := r1.lt
        clear r1 r2 r3 r4
        by_cases hi : i < l.length
        · have hi' : (i : Int) < l.length := by omega
          have hbb : Below wb.heap.size wb wr := R2.out.sv.base
          obtain ⟨b, o, k9, n9, s9, e9, l9, p9, cap9, rfl, hli, g0, g1, g2, g3, g4, hbw, hty⟩ := Hel.out i hi
          rw [← hbb.cell (p := ⟨b, o + i * 5, none⟩) hbw] at g0
          rw [← hbb.cell (p := ⟨b, o + i * 5 + 1, none⟩) hbw] at g1
          rw [← hbb.cell (p := ⟨b, o + i * 5 + 2, none⟩) hbw] at g2
          rw [← hbb.cell (p := ⟨b, o + i * 5 + 3, none⟩) hbw] at g3
          rw [← hbb.cell (p := ⟨b, o + i * 5 + 4, none⟩) hbw] at g4
          have hbr := Nat.lt_of_lt_of_le hbw hbb.size
          have hsa := HshA.out i hi
          have hVa := HVA.out i hi
          have hst := R4.out
          rw [Ty.marksL_step l i hi] at hst
          rw [hli] at hty
          have Hcall : Hid _ := Hih.out i hi wr ni qi k9 n9 s9 e9 l9 p9 cap9 hli R2.out hty hsa hVa
          have Hst : Hid (Ty.marksL (l.drop (i + 1)) ((l[i]'hi).marks qi) = q2) := hst
          generalize (l[i]'hi).marks qi = qq at *
          clear hty hli hst R4 R2 Hih Hel hsa hVa hbb
          go_wp2_with fail
          refine Calls.mono Hcall.out ?_
          rintro e w4 hp
          cases hp with
          | mk n4 he4 hS4 hk4 =>
          subst he4
          have HB4 : Hid _ := Box.kp R1.out hk4 (by simp; omega)
          have HS4 : Hid (Rq wb w4 sp bM bQ n n4 M f qq V) := hS4
          have HK4 : Hid (Kp [bQ] w w4) := R3.out.trans hk4
          clear hS4 hk4 R1 R3 Hcall
          go_wp2
          exact ⟨⟨i + 1, qq, n4, by go_num, by omega, HB4.out, HS4.out, HK4.out, Hst.out⟩, by simp [intOf]; omega⟩
        · have hi' : ¬ (i : Int) < l.length := by omega
          have h := R4.out
          rw [List.drop_of_length_le (by omega)] at h
          unfold Ty.marksL at h
          have Hq2 : Hid (q2 = qi) := h.symm
          clear h
          go_wp2
          go_end0
          exact MarkPost.mk ni rfl (by rw [Hq2.out]; exact R2.out) R3.out
end Go.Proofs.Ytbgpjaniohpfaaa
