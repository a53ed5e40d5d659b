/-
  Has a type, its variables replaced, no more parts than it may have (fitsIn, fits).
-/
import Derived.Test.YtbgpjaniohpfaaaK4
namespace Go.Proofs.Ytbgpjaniohpfaaa
open Go.RowKit Go.Deep
variable {μ : Marks}
/-- A block that holds a number. -/
def IntBox (w : World) (b : Nat) (c : Int) : Prop := w.heap[b]? = some (.cells #[.int .i64 c] 3)
theorem IntBox.kp {X : List Nat} {w w' : World} {b : Nat} {c : Int} (h : IntBox w b c) (hk : Kp X w w') (hb : b ∉ X) : IntBox w' b c := (hk.block b (Array.getElem?_eq_some_iff.1 h).1 hb).trans h
theorem IntBox.lt {w : World} {b : Nat} {c : Int} (h : IntBox w b c) : b < w.heap.size := (Array.getElem?_eq_some_iff.1 h).1
theorem IntBox.cell {w : World} {b : Nat} {c : Int} (h : IntBox w b c) : w.cell? ⟨b, 0, none⟩ = some (.int .i64 c) := by
  unfold IntBox at h
  simp [World.cell?, h]
theorem IntBox.frozen {w : World} {b : Nat} {c : Int} (h : IntBox w b c) : w.frozen? ⟨b, 0, none⟩ = false := by
  unfold IntBox at h
  simp [World.frozen?, h]
theorem IntBox.new (w : World) (c : Int) : IntBox (w.alloc (.cells #[.int .i64 c] 3)) w.heap.size c := (MapKept.heap_alloc w _).1
theorem info3 : (Try.prog.info? 3).map (·.size) = some 1 := by kernel_rfl
theorem wpList_store1 {ops : Array Oper} {rest : List Oper} {o : Oper} {a : Act} {w : World} {Q : Exit → Act → World → Prop} (hgd : o.guard = none) (x y : Operand) (ho : o.op = .store 3 x y)
    (hd : o.dst = none) (b : Nat) (d : Int) {c : Int} (hx : a.eval x = .pointer (some ⟨b, 0, none⟩)) (hy : a.eval y = .int .i64 d) (hB : IntBox w b c)
    (h : ∀ w', IntBox w' b d → Kp [b] w w' → wpList Try.prog ops Q rest a w') : wpList Try.prog ops Q (o :: rest) a w :=
  wpList_store_oneTo hgd 3 x y ho hd b (.int .i64 d) hx hy rfl 3 _ hB info3 (h _ (setRow_heap w b _ _ 3 _ hB) (setRow_kp w b _))
/-- What top leaves, said of a type's parts. -/
theorem Full.top_parts {M : Int → Option Ty} {k m : Int} {s : ByteArray} {e : Int} {l : List Ty} {T : Ty} {f : Int → Ty} (ha : Agr M f) (h : Full M (.mk k m s e l) T) (hf : k = 0 → M m = none) (hs : (Ty.mk k m s e l).okm μ) :
    (k = 0 ∧ l = [] ∧ T = .vr m) ∨ (¬ k = 0 ∧ T = .mk k m s e (l.map (Ty.app f))) := by
  by_cases hk : k = 0
  · refine .inl ⟨hk, ?_, ?_⟩
    · have hs := hs.1
      unfold Ty.shaped at hs
      rw [if_pos hk] at hs
      simp at hs
      exact hs.1.1.1.1
    · exact h.det (Full.free k m s e l hk (hf hk))
  · refine .inr ⟨hk, ?_⟩
    rw [ha.eq h, Ty.app_mk hk]
theorem shaped_arg {k m : Int} {s : ByteArray} {e : Int} {l : List Ty} (h : (Ty.mk k m s e l).shaped = true) (i : Nat) (hi : i < l.length) : (l[i]'hi).shaped = true := by
  unfold Ty.shaped at h
  rw [Bool.and_eq_true] at h
  have := h.2
  clear h
  induction l generalizing i with
  | nil => exact absurd hi (Nat.not_lt_zero _)
  | cons a r ih =>
    unfold Ty.shapedL at this
    rw [Bool.and_eq_true] at this
    cases i with
    | zero => exact this.1
    | succ i => exact ih i (by simpa using hi) this.2
theorem okm_arg {k m : Int} {s : ByteArray} {e : Int} {l : List Ty} (h : (Ty.mk k m s e l).okm μ) (i : Nat) (hi : i < l.length) : (l[i]'hi).okm μ := ⟨shaped_arg h.1 i hi, μ.arg k m s e l i hi h.2⟩
theorem field4 (c0 c1 c2 c3 c4 : Value) (w : World) : (Instr.field 33 (.agg #[c0, c1, c2, c3, c4]) 4).run Try.prog w = .ok c4 w := by
  unfold Instr.field
  simp [go_sem, asAgg]
set_option maxHeartbeats 2000000 in
set_option maxRecDepth 100000 in
theorem fitsIn_any (wb : World) (sp bM n : Nat) (f : Int → Ty) (L : Nat) (hL : wb.heap.size ≤ L ∧ L ≠ sp ∧ L ≠ bM) : ∀ (N : Nat) (w : World) (M : Int → Option Ty) (k m : Int) (s : ByteArray) (e : Int) (l : List Ty) (p : Option Addr) (cap : Nat) (c : Int),
    ((Ty.mk k m s e l).app f).count ≤ N → Sv μ wb w sp bM n M f → TyIn wb [.int .i64 k, .int .i64 m, .string s, .int .i64 e, .slice p l.length cap] (.mk k m s e l) → (Ty.mk k m s e l).okm μ → IntBox w L c → 0 ≤ c → c ≤ 400 →
    Calls Try.prog 45 #[.pointer (some ⟨sp, 0, none⟩), .agg #[.int .i64 k, .int .i64 m, .string s, .int .i64 e, .slice p l.length cap], .pointer (some ⟨L, 0, none⟩)] w fun e' w' =>
      ∃ M' c', Sv μ wb w' sp bM n M' f ∧ (∀ x, (M' x).isSome = (M x).isSome) ∧ IntBox w' L c' ∧ Kp [bM, L] w w' ∧ Hid ((((Ty.mk k m s e l).app f).count ≤ c ∧ e' = .returned (.bool true) ∧ c' = c - ((Ty.mk k m s e l).app f).count) ∨ (c < ((Ty.mk k m s e l).app f).count ∧ e' = .returned (.bool false))) := by
  intro N
  induction N with
  | zero => intro w M k m s e l p cap c hN; have := Full.count_pos ((Ty.mk k m s e l).app f); omega
  | succ N ih =>
    intro w M k m s e l p cap c hN hS hT hsh hc h0 h1
    have Hih : Hid _ := ih
    have HS : Hid (Sv μ wb w sp bM n M f) := hS
    have HT : Hid (TyIn wb [.int .i64 k, .int .i64 m, .string s, .int .i64 e, .slice p l.length cap] (.mk k m s e l)) := hT
    have Hsh : Hid ((Ty.mk k m s e l).okm μ) := hsh
    have Hc : Hid (IntBox w L c) := hc
    have hcell := ((hc.kp (Kp.alloc [] w (Obj.cells #[Value.int IntKind.i64 k, Value.int IntKind.i64 m, Value.string s, Value.int IntKind.i64 e, Value.slice p l.length cap] 33)) (by simp)).cell)
    have hIB : Hid (IntBox (w.alloc (Obj.cells #[Value.int IntKind.i64 k, Value.int IntKind.i64 m, Value.string s, Value.int IntKind.i64 e, Value.slice p l.length cap] 33)) L c) := (hc.kp (Kp.alloc [] w _) (by simp))
    have hTB := (Box.new w (.int .i64 k) (.int .i64 m) (.string s) (.int .i64 e) (.slice p l.length cap))
    have hLlt := hc.lt
    have hlt := hS.lt
    have hbs := hS.base.size
    generalize hX : (Ty.mk k m s e l).app f = X at *
    clear ih hS hT hsh hc
    go_enter Try.func45, Try.ntmps45
    by_cases hneg : c - 1 < 0
    · go_wp2_with (refine wpList_store1 rfl _ _ rfl rfl _ (c - 1) rfl rfl hIB.out ?_; intro w3 hE3 hk3; have hx0 := hE3.cell)
      have hcp := Full.count_pos X
      go_ret
      exact ⟨M, c - 1, (HS.out.kp (Kp.alloc [] _ _) (by simp)).kp hk3 ⟨by simp; omega, by simp; omega, by simp; omega⟩, fun _ => rfl, hE3, (Kp.alloc _ w _).trans (hk3.mono (by simp)), .inr ⟨by omega, rfl⟩⟩
    · go_wp2_with (refine wpList_store1 rfl _ _ rfl rfl _ (c - 1) rfl rfl hIB.out ?_; intro w3 hE3 hk3; have hx0 := hE3.cell; obtain ⟨t0, t1, t2, t3, t4⟩ := (hTB.kp hk3 (by simp; omega)).cells)
      have hsv3 := (HS.out.kp (Kp.alloc [] _ (Obj.cells #[Value.int IntKind.i64 k, Value.int IntKind.i64 m, Value.string s, Value.int IntKind.i64 e, Value.slice p l.length cap] 33)) (by simp)).kp hk3 ⟨by simp; omega, by simp; omega, by simp; omega⟩
      have hkw3 : Kp [bM, L] w w3 := (Kp.alloc _ w _).trans (hk3.mono (by simp))
      refine (top_any wb w3 sp bM n M f k m s e l p cap hsv3 HT.out Hsh.out).mono ?_
      rintro e9 w5 ⟨k', m', s', e1, l', p', cap', M', rfl, hT', hS', hF', hfree', hdom', hsv', hk'⟩
      rw [hX] at hF'
      have hXc : X.count = 1 + Ty.countL (l'.map (Ty.app f)) := by
        rcases Full.top_parts hsv'.agr hF' hfree' hS' with ⟨_, rfl, rfl⟩ | ⟨_, rfl⟩
        · rfl
        · unfold Ty.count; rfl
      obtain ⟨pp, cp, hcs, hl1, hl2, hel⟩ := hT'.elem
      obtain ⟨rfl, rfl⟩ : p' = pp ∧ cap' = cp := by simpa using hcs
      have hib5 : IntBox w5 L (c - 1) := hE3.kp hk' (by simp; omega)
      have hkw5 : Kp [bM, L] w w5 := hkw3.trans (hk'.mono (by simp))
      have Hel : Hid _ := hel
      have HXc : Hid (X.count = 1 + Ty.countL (l'.map (Ty.app f))) := hXc
      have HS' : Hid ((Ty.mk k' m' s' e1 l').okm μ) := hS'
      unfold maxLen at hl1
      clear hcs hel hF' hfree' hT' hXc hS' hkw3 hsv3 hk3 hE3 hx0 t0 t1 t2 t3 t4 hk' hcell hIB hTB Hc HT Hsh HS
      have hfld := field4 (.int .i64 k') (.int .i64 m') (.string s') (.int .i64 e1) (.slice p' l'.length cap') w5
      go_wp2_with fail
      clear hfld
      go_loopg [23] l'.length (fun g iv wr => ∃ (i : Nat) (ci : Int) (Mr : Int → Option Ty), iv = .int .i64 i ∧ i ≤ l'.length ∧ g = l'.length - i ∧ 0 ≤ ci ∧ ci ≤ 400 ∧ Hid (ci - Ty.countL ((l'.map (Ty.app f)).drop i) = c - X.count ∧ IntBox wr L ci ∧ Sv μ wb wr sp bM n Mr f ∧ (∀ x, (Mr x).isSome = (M x).isSome) ∧ Kp [bM, L] w wr))
      case atStart => exact ⟨0, c - 1, M', rfl, by omega, by omega, by omega, by omega, by rw [List.drop_zero]; have := HXc.out; omega, hib5, hsv', hdom', hkw5⟩
      case round =>
        clear hib5 hkw5 hsv' hdom'
        obtain ⟨i, ci, Mr, rfl, hi1, rfl, hc0, hc1, HR⟩ := hrel
        by_cases hi : i < l'.length
        · have hi' : (i : Int) < l'.length := by omega
          obtain ⟨b, o, k2, n2, s2, e2, l2, p2, cap2, rfl, hli, g0, g1, g2, g3, g4, hbw, hty⟩ := Hel.out i hi
          obtain ⟨r1, r2, r3, r4, r5⟩ := HR.out
          clear HR
          have hb := r3.base
          rw [← hb.cell (p := ⟨b, o + i * 5, none⟩) hbw] at g0
          rw [← hb.cell (p := ⟨b, o + i * 5 + 1, none⟩) hbw] at g1
          rw [← hb.cell (p := ⟨b, o + i * 5 + 2, none⟩) hbw] at g2
          rw [← hb.cell (p := ⟨b, o + i * 5 + 3, none⟩) hbw] at g3
          rw [← hb.cell (p := ⟨b, o + i * 5 + 4, none⟩) hbw] at g4
          have hbr := Nat.lt_of_lt_of_le hbw hb.size
          have hcnt : Ty.countL ((l'.map (Ty.app f)).drop i) = ((l'[i]'hi).app f).count + Ty.countL ((l'.map (Ty.app f)).drop (i + 1)) := by
            rw [Ty.countL_step _ i (by simpa using hi), List.getElem_map]
          have hch : ((l'[i]'hi).app f).count ≤ N := by
            have h1 := Ty.countL_mem (l'.map (Ty.app f)) i (by simpa using hi)
            rw [List.getElem_map] at h1
            have := HXc.out
            omega
          have hsh2 := okm_arg HS'.out i hi
          rw [hli] at hcnt hch hsh2 hty
          have hk1 : Kp [] wr (wr.alloc (Obj.cells #[Value.int IntKind.i64 k2, Value.int IntKind.i64 n2, Value.string s2, Value.int IntKind.i64 e2, Value.slice p2 l2.length cap2] 33)) := Kp.alloc _ _ _
          have hcall := Hih.out _ Mr k2 n2 s2 e2 l2 p2 cap2 ci hch (r3.kp hk1 (by simp)) hty hsh2 (r2.kp hk1 (by simp)) hc0 hc1
          have Hcall : Hid _ := hcall
          have R1 : Hid (ci - Ty.countL ((l'.map (Ty.app f)).drop i) = c - X.count) := r1
          have R4 : Hid (∀ x, (Mr x).isSome = (M x).isSome) := r4
          have R5 : Hid (Kp [bM, L] w (wr.alloc (Obj.cells #[Value.int IntKind.i64 k2, Value.int IntKind.i64 n2, Value.string s2, Value.int IntKind.i64 e2, Value.slice p2 l2.length cap2] 33))) := r5.trans (Kp.alloc _ _ _)
          have Hcnt : Hid (Ty.countL ((l'.map (Ty.app f)).drop i) = ((Ty.mk k2 n2 s2 e2 l2).app f).count + Ty.countL ((l'.map (Ty.app f)).drop (i + 1))) := hcnt
          clear hcall r1 r2 r3 r4 r5 hcnt hch hsh2 hty hli hb hk1
          go_wp2_with fail
          refine Calls.mono Hcall.out ?_
          rintro e10 w6 ⟨M6, c6, hsv6, hdom6, hib6, hk6, ⟨hle, rfl, rfl⟩ | ⟨hgt, rfl⟩⟩
          · have q1 : ci - ((Ty.mk k2 n2 s2 e2 l2).app f).count - Ty.countL ((l'.map (Ty.app f)).drop (i + 1)) = c - X.count := by have := R1.out; have := Hcnt.out; omega
            have q2 : 0 ≤ ci - ((Ty.mk k2 n2 s2 e2 l2).app f).count := by omega
            have q3 : ci - ((Ty.mk k2 n2 s2 e2 l2).app f).count ≤ 400 := by omega
            have q5 := R5.out.trans hk6
            generalize ci - (((Ty.mk k2 n2 s2 e2 l2).app f).count : Int) = c7 at *
            have Q1 : Hid (c7 - Ty.countL ((l'.map (Ty.app f)).drop (i + 1)) = c - X.count) := q1
            clear q1 hle Hcall Hcnt R1 g0 g1 g2 g3 g4
            go_wp2
            go_roundg (l'.length - (i + 1))
            case measure => omega
            case rel => exact ⟨i + 1, c7, M6, by first | rfl | (congr 1; omega) | go_num, by omega, rfl, q2, q3, Q1.out, hib6, hsv6, fun x => (hdom6 x).trans (R4.out x), q5⟩
          · have q1 : c < X.count := by have := R1.out; have := Hcnt.out; omega
            have q5 := R5.out.trans hk6
            clear hgt Hcall Hcnt R1 g0 g1 g2 g3 g4
            go_wp2
            go_ret
            exact ⟨M6, c6, hsv6, fun x => (hdom6 x).trans (R4.out x), hib6, q5, .inr ⟨q1, rfl⟩⟩
        · have hi' : ¬ (i : Int) < l'.length := by omega
          have r1 := HR.out.1
          rw [List.drop_of_length_le (by simp; omega)] at r1
          have r1' : ci = c - X.count := by unfold Ty.countL at r1; simpa using r1
          have R1 : Hid (ci = c - X.count) := r1'
          clear r1 r1'
          go_wp2
          go_ret
          obtain ⟨_, r2, r3, r4, r5⟩ := HR.out
          exact ⟨Mr, r3, r4, ci, r2, r5, .inl ⟨by have := R1.out; omega, rfl, R1.out⟩⟩
/-- What is left of the solver where nothing but ways were made shorter. -/
inductive SvPost (μ : Marks) (wb : World) (sp bM n : Nat) (f : Int → Ty) (w : World) (M : Int → Option Ty) (X : List Nat) (w' : World) : Prop
  | mk (M' : Int → Option Ty) (hS : Sv μ wb w' sp bM n M' f) (hd : ∀ x, (M' x).isSome = (M x).isSome) (hk : Kp X w w') : SvPost μ wb sp bM n f w M X w'
set_option maxHeartbeats 2000000 in
set_option maxRecDepth 100000 in
theorem fits_any (wb : World) (sp bM n : Nat) (f : Int → Ty) (w : World) (M : Int → Option Ty) (k m : Int) (s : ByteArray) (e : Int) (l : List Ty) (p : Option Addr) (cap : Nat)
    (hS : Sv μ wb w sp bM n M f) (hT : TyIn wb [.int .i64 k, .int .i64 m, .string s, .int .i64 e, .slice p l.length cap] (.mk k m s e l)) (hsh : (Ty.mk k m s e l).okm μ) :
    Calls Try.prog 33 #[.pointer (some ⟨sp, 0, none⟩), .agg #[.int .i64 k, .int .i64 m, .string s, .int .i64 e, .slice p l.length cap]] w fun e' w' =>
      e' = .returned (.bool (decide (((Ty.mk k m s e l).app f).count ≤ 400))) ∧ SvPost μ wb sp bM n f w M [bM] w' := by
  have hlt := hS.lt
  have hbs := hS.base.size
  have HS : Hid (Sv μ wb w sp bM n M f) := hS
  have HT : Hid (TyIn wb [.int .i64 k, .int .i64 m, .string s, .int .i64 e, .slice p l.length cap] (.mk k m s e l)) := hT
  have Hsh : Hid ((Ty.mk k m s e l).okm μ) := hsh
  have hkk : Kp [] w ((w.alloc (Obj.cells #[Value.int IntKind.i64 k, Value.int IntKind.i64 m, Value.string s, Value.int IntKind.i64 e, Value.slice p l.length cap] 33)).alloc (Obj.cells #[.int .i64 400] 3)) := (Kp.alloc _ _ _).trans (Kp.alloc _ _ _)
  have hib := IntBox.new (w.alloc (Obj.cells #[Value.int IntKind.i64 k, Value.int IntKind.i64 m, Value.string s, Value.int IntKind.i64 e, Value.slice p l.length cap] 33)) 400
  rw [heap_size_alloc] at hib
  have hcall := fitsIn_any wb sp bM n f (w.heap.size + 1) (by omega) _ _ M k m s e l p cap 400 (Nat.le_refl _) (hS.kp hkk (by simp)) hT hsh hib (by omega) (by omega)
  have Hcall : Hid _ := hcall
  have Hkk : Hid _ := hkk
  generalize ((Ty.mk k m s e l).app f).count = X at *
  clear hS hT hsh hcall hkk hib
  go_enter Try.func33, Try.ntmps33
  go_wp2_with fail
  refine Calls.mono Hcall.out ?_
  rintro e10 w6 ⟨M6, c6, hsv6, hdom6, hib6, hk6, ⟨hle, rfl, rfl⟩ | ⟨hgt, rfl⟩⟩
  · have Hq : Hid ((decide (X ≤ 400)) = true) := by unfold Hid; simp; omega
    have Hp : Hid (SvPost μ wb sp bM n f w M [bM] w6) := SvPost.mk M6 hsv6 hdom6 (Kp.then (Kp.mono Hkk.out (by simp)) hk6 (by simp))
    clear hsv6 hdom6 hib6 hk6
    go_wp2
    go_ret
    exact ⟨ret_bool Hq.out.symm, Hp.out⟩
  · have Hq : Hid ((decide (X ≤ 400)) = false) := by unfold Hid; simp; omega
    have Hp : Hid (SvPost μ wb sp bM n f w M [bM] w6) := SvPost.mk M6 hsv6 hdom6 (Kp.then (Kp.mono Hkk.out (by simp)) hk6 (by simp))
    clear hsv6 hdom6 hib6 hk6
    go_wp2
    go_ret
    exact ⟨ret_bool Hq.out.symm, Hp.out⟩
end Go.Proofs.Ytbgpjaniohpfaaa
