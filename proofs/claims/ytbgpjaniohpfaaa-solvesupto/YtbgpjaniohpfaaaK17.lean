/-
  The variables of a type are met (newSolver, meet, eachVariable).
-/
import Derived.Test.YtbgpjaniohpfaaaK11
namespace Go.Proofs.Ytbgpjaniohpfaaa
open Go.RowKit Go.Deep
mutual
/-- Which variables say of themselves that they are of compared types. -/
def Ty.marks : Ty → (Int → Int) → (Int → Int)
  | .mk k n _ e l, q => if k = 0 then upd q n (max (q n) e) else Ty.marksL l q
def Ty.marksL : List Ty → (Int → Int) → (Int → Int)
  | [], q => q
  | a :: l, q => Ty.marksL l (Ty.marks a q)
end
theorem Ty.marksL_step (l : List Ty) (i : Nat) (hi : i < l.length) (q : Int → Int) : Ty.marksL (l.drop i) q = Ty.marksL (l.drop (i + 1)) ((l[i]'hi).marks q) := by
  rw [List.drop_eq_getElem_cons hi]
  conv => lhs; unfold Ty.marksL
def met (V : List Int) (x : Int) : List Int := if V.contains x then V else V ++ [x]
theorem EqAt.meet {w : World} {b : Nat} {q : Int → Int} {V : List Int} (h : EqAt w b V.length q V) (hn : V.length < maxLen) {x : Int} (hx : (Lit.int .i64 x).wf = true) {c : Int} (hc : c = 0 ∨ c = 1) :
    ∃ w', (Instr.mapUpdate 51 (.map (some b)) (.int .i64 x) (.int .i64 c)).run Try.prog w = .ok () w' ∧ EqAt w' b (met V x).length (upd q x c) (met V x) ∧ Kp [b] w w' := by
  obtain ⟨G, h1, h2⟩ := h
  obtain ⟨w', hrun, hm, hk⟩ := h1.store map51 hn hx (.int .i64 c)
  rw [(h2 x).2.1] at hm
  refine ⟨w', hrun, ⟨upd G x (some (.int .i64 c)), ?_, fun y => ?_⟩, hk⟩
  · unfold met
    cases hV : V.contains x with
    | true => rw [hV] at hm; simpa using hm
    | false => rw [hV] at hm; simpa using hm
  · have hmc : (met V x).contains y = (V.contains y || (y == x)) := by
      unfold met
      cases hV : V.contains x with
      | true =>
        by_cases e : y = x
        · subst e; simpa using hV
        · simp [e]
      | false =>
        by_cases e : y = x
        · subst e; simp
        · simp [e]
    rw [hmc]
    by_cases hy : y = x
    · subst hy
      rw [upd_same, upd_same]
      exact ⟨rfl, by simp, hc⟩
    · rw [upd_other _ _ hy, upd_other _ _ hy]
      refine ⟨(h2 y).1, ?_, (h2 y).2.2⟩
      rw [(h2 y).2.1]
      simp [hy]
set_option maxHeartbeats 4000000 in
set_option maxRecDepth 100000 in
theorem meet_any (w : World) (bQ : Nat) (q : Int → Int) (V : List Int) (k n : Int) (s : ByteArray) (e : Int) (v4 : Value) (hQ : EqAt w bQ V.length q V) (hn : V.length < maxLen) (hw : (Lit.int .i64 n).wf = true) (he : e = 0 ∨ e = 1) :
    Calls Try.prog 16 #[.map (some bQ), .agg #[.int .i64 k, .int .i64 n, .string s, .int .i64 e, v4]] w fun e' w' => e' = .returned (.tuple #[]) ∧ EqAt w' bQ (met V n).length (upd q n (max (q n) e)) (met V n) ∧ Kp [bQ] w w' := by
  have hk1 : Kp [] w (w.alloc (Obj.cells #[.int .i64 k, .int .i64 n, .string s, .int .i64 e, v4] 33)) := Kp.alloc _ _ _
  have hQ1 := hQ.kp hk1 (by simp)
  have hlk := hQ1.look hw
  have hq01 : q n = 0 ∨ q n = 1 := by obtain ⟨G, _, h2⟩ := hQ; exact (h2 n).2.2
  have key : ∀ a c d : Int, q n = a → e = c → max a c = d → (d = 0 ∨ d = 1) → (a = 0 ∨ a = 1) → (c = 0 ∨ c = 1) → Calls Try.prog 16 #[.map (some bQ), .agg #[.int .i64 k, .int .i64 n, .string s, .int .i64 e, v4]] w fun e' w' => e' = .returned (.tuple #[]) ∧ EqAt w' bQ (met V n).length (upd q n (max (q n) e)) (met V n) ∧ Kp [bQ] w w' := by
    intro a c d ha hc hd hd1 ha1 hc1
    obtain ⟨w7, hrun, hmap, hk7⟩ := hQ1.meet hn hw hd1
    rw [ha] at hlk ⊢
    subst hc
    rw [hd]
    have Hmap : Hid _ := hmap
    have HK : Hid (Kp [bQ] w w7) := (hk1.mono (by simp)).trans hk7
    clear hQ hk1 hQ1 hmap hk7 hq01 ha he
    rcases ha1 with rfl | rfl <;> rcases hc1 with rfl | rfl
    · have hdd : d = 0 := by rw [← hd]; rfl
      subst hdd
      clear hd1 hd
      go_enter Try.func16, Try.ntmps16
      go_wp2
      go_end0
      exact ⟨rfl, Hmap.out, HK.out⟩
    · have hdd : d = 1 := by rw [← hd]; rfl
      subst hdd
      clear hd1 hd
      go_enter Try.func16, Try.ntmps16
      go_wp2
      go_end0
      exact ⟨rfl, Hmap.out, HK.out⟩
    · have hdd : d = 1 := by rw [← hd]; rfl
      subst hdd
      clear hd1 hd
      go_enter Try.func16, Try.ntmps16
      go_wp2
      go_end0
      exact ⟨rfl, Hmap.out, HK.out⟩
    · have hdd : d = 1 := by rw [← hd]; rfl
      subst hdd
      clear hd1 hd
      go_enter Try.func16, Try.ntmps16
      go_wp2
      go_end0
      exact ⟨rfl, Hmap.out, HK.out⟩
  rcases hq01 with h1 | h1 <;> rcases he with h2 | h2
  · exact key 0 0 0 h1 h2 rfl (.inl rfl) (.inl rfl) (.inl rfl)
  · exact key 0 1 1 h1 h2 rfl (.inr rfl) (.inl rfl) (.inr rfl)
  · exact key 1 0 1 h1 h2 rfl (.inr rfl) (.inr rfl) (.inl rfl)
  · exact key 1 1 1 h1 h2 rfl (.inr rfl) (.inr rfl) (.inr rfl)
set_option maxHeartbeats 4000000 in
set_option maxRecDepth 100000 in
theorem newSolver_any (w : World) : Calls Try.prog 14 #[] w fun e' w' => e' = .returned (.pointer (some ⟨w.heap.size + 2, 0, none⟩)) ∧ w' = ((w.alloc (.map #[] 0)).alloc (.map #[] 0)).alloc (.cells #[.map (some w.heap.size), .map (some (w.heap.size + 1)), .int .i64 0, .int .i64 0] 53) := by
  have hmm := @run_makeMap Try.prog
  go_enter Try.func14, Try.ntmps14
  go_wp2
  go_ret
  exact ⟨rfl, rfl⟩
theorem met_len (V : List Int) (x : Int) : (met V x).length ≤ V.length + 1 := by
  unfold met
  split <;> simp
theorem Ty.vars_met {k n : Int} {s : ByteArray} {e : Int} {l : List Ty} {V : List Int} (h : k = 0) : (Ty.mk k n s e l).vars V = met V n := by
  unfold met
  rw [Ty.vars, if_pos h]
/-- What is left where a type's variables were met. -/
inductive MeetPost (w : World) (bQ : Nat) (q : Int → Int) (V : List Int) (e' : Ending) (w' : World) : Prop
  | mk (he : e' = .returned (.tuple #[])) (hQ : EqAt w' bQ V.length q V) (hk : Kp [bQ] w w') : MeetPost w bQ q V e' w'
set_option maxHeartbeats 4000000 in
set_option maxRecDepth 100000 in
theorem each_any (wb : World) (bQ : Nat) (hb : wb.heap.size ≤ bQ) : ∀ (T : Ty) (w : World) (q : Int → Int) (V : List Int) (k n : Int) (s : ByteArray) (e : Int) (l : List Ty) (p : Option Addr) (cap : Nat), T = .mk k n s e l → TyIn wb [.int .i64 k, .int .i64 n, .string s, .int .i64 e, .slice p l.length cap] (.mk k n s e l) → T.shaped = true → Below wb.heap.size wb w → EqAt w bQ V.length q V → V.length + T.count < maxLen →
    Calls Try.prog 15 #[.agg #[.int .i64 k, .int .i64 n, .string s, .int .i64 e, .slice p l.length cap], .func (Fn.func 16) #[.map (some bQ)] #[]] w fun e' w' => MeetPost w bQ (T.marks q) (T.vars V) e' w' := by
  intro T
  induction T using Ty.ind with
  | h k n s e l ih =>
    intro w q V k9 n9 s9 e9 l9 p cap hTe hT hsh hbw hQ hroom
    cases hTe
    have hk1 : Kp [] w (w.alloc (Obj.cells #[Value.int IntKind.i64 k, Value.int IntKind.i64 n, Value.string s, Value.int IntKind.i64 e, Value.slice p l.length cap] 33)) := Kp.alloc _ _ _
    have hB1 := Box.new w (.int .i64 k) (.int .i64 n) (.string s) (.int .i64 e) (.slice p l.length cap)
    have hQ1 := hQ.kp hk1 (by simp)
    have hbs := hbw.size
    have hQlt := hQ.lt
    by_cases hk0 : k = 0
    · have hl0 : l = [] ∧ (e = 0 ∨ e = 1) := by
        unfold Ty.shaped at hsh
        rw [if_pos hk0] at hsh
        simp at hsh
        exact ⟨hsh.1.1.1.1, by omega⟩
      obtain ⟨rfl, he⟩ := hl0
      have hcall := meet_any _ bQ q V k n s e (.slice p ([] : List Ty).length cap) hQ1 (by have := Full.count_pos (Ty.mk k n s e []); omega) (shaped_wf hT).2.1 he
      have Hcall : Hid _ := hcall
      have HK1 : Hid _ := hk1
      have hmk : (Ty.mk k n s e []).marks q = upd q n (max (q n) e) := by rw [Ty.marks, if_pos hk0]
      rw [hmk, Ty.vars_met hk0]
      have hk0' : (k == 0) = true := by simpa using hk0
      have HB1 : Hid _ := hB1
      generalize upd q n (max (q n) e) = q' at *
      generalize met V n = V' at *
      clear ih hT hsh hbw hQ hroom hQ1 hcall hk1 hmk hk0 he hB1
      go_enter Try.func15, Try.ntmps15
      go_wp2_with fail
      refine Calls.mono Hcall.out ?_
      rintro e10 w6 ⟨rfl, hq6, hk6⟩
      have hB6 := Box.kp HB1.out hk6 (by simp <;> omega)
      obtain ⟨x0, x1, x2, x3, x4⟩ := hB6.cells
      have Hp : Hid (MeetPost w bQ q' V' (.returned (.tuple #[])) w6) := MeetPost.mk rfl hq6 (Kp.trans (Kp.mono HK1.out (by simp)) hk6)
      clear hq6 hk6 hB6 Hcall
      go_wp2_with fail
      go_loopg [15] 0 (fun g iv wr => iv = .int .i64 0 ∧ Hid (wr = w6))
      case atStart => exact ⟨rfl, rfl⟩
      case round =>
        obtain ⟨rfl, hwr⟩ := hrel
        obtain rfl := hwr.out
        go_wp2
        go_end0
        exact Hp.out
    · have hmk : (Ty.mk k n s e l).marks q = Ty.marksL (l.drop 0) q := by rw [Ty.marks, if_neg hk0, List.drop_zero]
      have hvr := Ty.vars_args k n s e l V hk0
      have hct : (Ty.mk k n s e l).count = 1 + Ty.countL (l.drop 0) := by rw [Ty.count, List.drop_zero]
      generalize hXs : (Ty.mk k n s e l).shaped = Xs at *
      rw [hmk, hvr]
      generalize hQQ : Ty.marksL (l.drop 0) q = QQ
      generalize hVV : Ty.varsL V (l.drop 0) = VV
      have HQQ : Hid (Ty.marksL (l.drop 0) q = QQ) := hQQ
      have HVV : Hid (Ty.varsL V (l.drop 0) = VV) := hVV
      have hk0' : (k == 0) = false := by simpa using hk0
      obtain ⟨pp, cp, hcs, hl1, hl2, hel⟩ := hT.elem
      obtain ⟨rfl, rfl⟩ : p = pp ∧ cap = cp := by simpa using hcs
      have Hel : Hid _ := hel
      have Hih : Hid _ := ih
      have Hbw : Hid (Below wb.heap.size wb w) := hbw
      have Hsh : Hid ((Ty.mk k n s e l).shaped = true) := by unfold Hid; rw [hXs]; exact hsh
      have HQ1 : Hid _ := hQ1
      have HK1 : Hid (Kp [bQ] w (w.alloc (Obj.cells #[Value.int IntKind.i64 k, Value.int IntKind.i64 n, Value.string s, Value.int IntKind.i64 e, Value.slice p l.length cap] 33))) := hk1.mono (by simp)
      have Hroom : Hid (V.length + Ty.countL (l.drop 0) < maxLen) := by unfold Hid; omega
      unfold maxLen at hl1
      clear hel ih hT hcs hbw hQ hQ1 hk1 hroom hct hmk hvr hQQ hVV hsh hXs hk0
      go_enter Try.func15, Try.ntmps15
      go_wp2_with fail
      go_loopg [15] l.length (fun g iv wr => ∃ (i : Nat), iv = .int .i64 i ∧ i ≤ l.length ∧ g = l.length - i ∧ Hid (∃ (qr : Int → Int) (Vr : List Int), Ty.marksL (l.drop i) qr = QQ ∧ Ty.varsL Vr (l.drop i) = VV ∧ EqAt wr bQ Vr.length qr Vr ∧ Vr.length + Ty.countL (l.drop i) < maxLen ∧ Kp [bQ] w wr))
      case atStart => exact ⟨0, rfl, by omega, by omega, q, V, HQQ.out, HVV.out, HQ1.out, Hroom.out, HK1.out⟩
      case round =>
        clear HQQ HVV HQ1 Hroom HK1
        obtain ⟨i, rfl, hi1, rfl, HR⟩ := hrel
        by_cases hi : i < l.length
        · have hi' : (i : Int) < l.length := by omega
          obtain ⟨b, o, k2, n2, s2, e2, l2, p2, cap2, rfl, hli, g0, g1, g2, g3, g4, hbl, hty⟩ := Hel.out i hi
          obtain ⟨qr, Vr, r1, r2, r3, r4, r5⟩ := HR.out
          clear HR
          have hb := Hbw.out.trans (r5.below Hbw.out.size (by simp <;> omega))
          rw [← hb.cell (p := ⟨b, o + i * 5, none⟩) hbl] at g0
          rw [← hb.cell (p := ⟨b, o + i * 5 + 1, none⟩) hbl] at g1
          rw [← hb.cell (p := ⟨b, o + i * 5 + 2, none⟩) hbl] at g2
          rw [← hb.cell (p := ⟨b, o + i * 5 + 3, none⟩) hbl] at g3
          rw [← hb.cell (p := ⟨b, o + i * 5 + 4, none⟩) hbl] at g4
          have hbr := Nat.lt_of_lt_of_le hbl hb.size
          rw [Ty.marksL_step l i hi] at r1
          rw [Ty.varsL_step l i hi] at r2
          rw [Ty.countL_step l i hi] at r4
          have hvl := Ty.vars_len (l[i]'hi) Vr
          have hshi := shaped_arg Hsh.out i hi
          have hka : Kp [] wr (wr.alloc (Obj.cells #[Value.int IntKind.i64 k2, Value.int IntKind.i64 n2, Value.string s2, Value.int IntKind.i64 e2, Value.slice p2 l2.length cap2] 33)) := Kp.alloc _ _ _
          have hcall := Hih.out i hi _ qr Vr k2 n2 s2 e2 l2 p2 cap2 hli (hli ▸ hty) hshi (hb.trans (hka.below hb.size (by simp))) (r3.kp hka (by simp)) (by omega)
          generalize l[i]'hi = A at *
          have Hcall : Hid _ := hcall
          have R1 : Hid (Ty.marksL (l.drop (i + 1)) (A.marks qr) = QQ) := r1
          have R2 : Hid (Ty.varsL (A.vars Vr) (l.drop (i + 1)) = VV) := r2
          have R4 : Hid ((A.vars Vr).length + Ty.countL (l.drop (i + 1)) < maxLen) := by unfold Hid; omega
          have R5 : Hid (Kp [bQ] w (wr.alloc (Obj.cells #[Value.int IntKind.i64 k2, Value.int IntKind.i64 n2, Value.string s2, Value.int IntKind.i64 e2, Value.slice p2 l2.length cap2] 33))) := r5.trans (Kp.alloc _ _ _)
          clear hcall r1 r2 r3 r4 r5 hvl hshi hty hli hb hka
          go_wp2_with fail
          refine Calls.mono Hcall.out ?_
          rintro e10 w6 hp
          cases hp with
          | mk u1 u2 u3 =>
          subst u1
          have Q1 : Hid (∃ (qr : Int → Int) (Vr : List Int), Ty.marksL (l.drop (i + 1)) qr = QQ ∧ Ty.varsL Vr (l.drop (i + 1)) = VV ∧ EqAt w6 bQ Vr.length qr Vr ∧ Vr.length + Ty.countL (l.drop (i + 1)) < maxLen ∧ Kp [bQ] w w6) := ⟨_, _, R1.out, R2.out, u2, R4.out, R5.out.trans u3⟩
          clear u2 u3 Hcall R1 R2 R4 R5 g0 g1 g2 g3 g4
          go_wp2
          go_roundg (l.length - (i + 1))
          case measure => omega
          case rel => exact ⟨i + 1, by first | rfl | (congr 1; omega) | go_num, by omega, rfl, Q1⟩
        · have hi' : ¬ (i : Int) < l.length := by omega
          go_wp2
          obtain ⟨qr, Vr, r1, r2, r3, r4, r5⟩ := HR.out
          rw [List.drop_of_length_le (by omega)] at r1 r2
          unfold Ty.marksL at r1
          rw [Ty.varsL_end] at r2
          subst r1
          subst r2
          go_end0
          exact MeetPost.mk rfl r3 r5
end Go.Proofs.Ytbgpjaniohpfaaa
