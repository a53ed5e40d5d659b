/-
  The law Round: what the program's Encode writes is read by its Decode as it was, and the other way round.
-/
import Derived.Test.YtimdjcffmajmnaaDoorL4
import Derived.Test.YtimdjcffmajmnaaDoorE9
namespace Go.Proofs.YtimdjcffmajmnaaDoor
open Go.RowKit Go.Deep
theorem cbox_cell {w : World} {b : Nat} {p : Option Addr} {n cap : Nat} {p' : Option Addr} {n' cap' : Nat} (h : CBox w b p n cap p' n' cap') (o : Nat) (v : Value) (hv : w.cell? ⟨b, o, none⟩ = some v) : ∃ q m c, v = .slice q m c := by
  unfold CBox at h
  simp [World.cell?, h] at hv
  match o, hv with
  | 0, hv => simp at hv; exact ⟨_, _, _, hv.symm⟩
  | 1, hv => simp at hv; exact ⟨_, _, _, hv.symm⟩
  | o + 2, hv => simp at hv
theorem ebox_cell {w : World} {b : Nat} {k a : Int} (h : EBox w b k a) (o : Nat) (v : Value) (hv : w.cell? ⟨b, o, none⟩ = some v) : o < 2 ∧ ∃ i, v = .int .i64 i := by
  unfold EBox at h
  simp [World.cell?, h] at hv
  match o, hv with
  | 0, hv => simp at hv; exact ⟨by omega, _, hv.symm⟩
  | 1, hv => simp at hv; exact ⟨by omega, _, hv.symm⟩
  | o + 2, hv => simp at hv
section
variable {w W : World} {db fb : Nat} {p : Option Addr} {n cap : Nat} {p' : Option Addr} {n' cap' : Nat} {k a : Int}
/-- Rows lie elsewhere than the cells of a code and of a fault. -/
theorem TextsIn.set {q : Option Addr} {ts : List ByteArray} (h : TextsIn w q ts) (hc : CBox w db p n cap p' n' cap') (he : EBox w fb k a) (hk : Kp [db, fb] w W) : TextsIn W q ts :=
  ⟨h.len, fun i hi => by
    obtain ⟨b, o, h1, h2, h3⟩ := h.get i hi
    refine ⟨b, o, h1, Nat.lt_of_lt_of_le h2 hk.size, hk.cell h3 ?_⟩
    simp only [List.mem_cons, List.not_mem_nil, or_false, not_or]
    refine ⟨fun e => ?_, fun e => ?_⟩
    · subst e
      obtain ⟨_, _, _, h⟩ := cbox_cell hc _ _ h3
      cases h
    · subst e
      obtain ⟨_, _, h⟩ := ebox_cell he _ _ h3
      cases h⟩
theorem InsIn.set {q : Option Addr} {l : List In} (h : InsIn w q l) (hc : CBox w db p n cap p' n' cap') (he : EBox w fb k a) (hk : Kp [db, fb] w W) : InsIn W q l :=
  ⟨h.len, fun i hi => by
    obtain ⟨b, o, h1, h2, h3, h4, h5⟩ := h.get i hi
    have hn : b ∉ [db, fb] := by
      simp only [List.mem_cons, List.not_mem_nil, or_false, not_or]
      refine ⟨fun e => ?_, fun e => ?_⟩
      · subst e
        obtain ⟨_, _, _, h⟩ := cbox_cell hc _ _ h3
        cases h
      · subst e
        have := (ebox_cell he _ _ h5).1
        omega
    exact ⟨b, o, h1, Nat.lt_of_lt_of_le h2 hk.size, hk.cell h3 hn, hk.cell h4 hn, hk.cell h5 hn⟩⟩
theorem FunsIn.set {q : Option Addr} {fs : List Fn} (h : FunsIn w q fs) (hc : CBox w db p n cap p' n' cap') (he : EBox w fb k a) (hk : Kp [db, fb] w W) : FunsIn W q fs :=
  ⟨h.len, fun i hi => by
    obtain ⟨b, o, z, zc, h1, h2, ⟨h3, h4, h5⟩, h6⟩ := h.get i hi
    have hn : b ∉ [db, fb] := by
      simp only [List.mem_cons, List.not_mem_nil, or_false, not_or]
      refine ⟨fun e => ?_, fun e => ?_⟩
      · subst e
        obtain ⟨_, _, _, h⟩ := cbox_cell hc _ _ h3
        cases h
      · subst e
        have := (ebox_cell he _ _ h5).1
        omega
    exact ⟨b, o, z, zc, h1, Nat.lt_of_lt_of_le h2 hk.size, ⟨hk.cell h3 hn, hk.cell h4 hn, hk.cell h5 hn⟩, h6.set hc he hk⟩⟩
theorem set2 (hc : CBox w db p n cap p' n' cap') (he : EBox w fb k a) (q : Option Addr) (m c : Nat) (q' : Option Addr) (m' c' : Nat) (k' a' : Int) :
    CBox ((((w.setCell ⟨db, 0, none⟩ (.slice q m c)).setCell ⟨db, 1, none⟩ (.slice q' m' c')).setCell ⟨fb, 0, none⟩ (.int .i64 k')).setCell ⟨fb, 1, none⟩ (.int .i64 a')) db q m c q' m' c' ∧ EBox ((((w.setCell ⟨db, 0, none⟩ (.slice q m c)).setCell ⟨db, 1, none⟩ (.slice q' m' c')).setCell ⟨fb, 0, none⟩ (.int .i64 k')).setCell ⟨fb, 1, none⟩ (.int .i64 a')) fb k' a' ∧ Kp [db, fb] w ((((w.setCell ⟨db, 0, none⟩ (.slice q m c)).setCell ⟨db, 1, none⟩ (.slice q' m' c')).setCell ⟨fb, 0, none⟩ (.int .i64 k')).setCell ⟨fb, 1, none⟩ (.int .i64 a')) ∧ db ≠ fb := by
  have hne : db ≠ fb := fun e => by
    subst e
    unfold CBox at hc
    unfold EBox at he
    rw [hc] at he
    simp at he
  have hne' : fb ≠ db := fun e => hne e.symm
  have k1 : Kp [db, fb] w (w.setCell ⟨db, 0, none⟩ (.slice q m c)) := Kp.setCell _ ⟨db, 0, none⟩ (by simp) _
  refine ⟨?_, ?_, ((k1.trans (Kp.setCell _ ⟨db, 1, none⟩ (by simp) _)).trans (Kp.setCell _ ⟨fb, 0, none⟩ (by simp) _)).trans (Kp.setCell _ ⟨fb, 1, none⟩ (by simp) _), hne⟩
  · unfold CBox at *
    simp [World.setCell, Array.getElem?_modify, hc, hne']
  · unfold EBox at *
    simp [World.setCell, Array.getElem?_modify, he, hne]
end
theorem CBox.kp {X : List Nat} {w w' : World} {b : Nat} {p : Option Addr} {n cap : Nat} {p' : Option Addr} {n' cap' : Nat} (h : CBox w b p n cap p' n' cap') (hk : Kp X w w') (hx : b ∉ X) : CBox w' b p n cap p' n' cap' := (hk.block b (Array.getElem?_eq_some_iff.1 h).1 hx).trans h
theorem enc_zero {c : Cd} (h : c.enc.2 = 0) : c.ok = true ∧ c.bytes.length ≤ 4000000 := by
  unfold Cd.enc at h
  split at h
  · rename_i h1
    split at h
    · cases h
    · rename_i h2
      exact ⟨h1, by omega⟩
  · cases h
theorem small_ok2 : smallCd.ok = true ∧ smallCd.bytes.length ≤ 4000000 := by decide +kernel
theorem small_dec : decR { data := smallCd.enc.1.toArray } = (smallCd, 0, 0) := by
  have h := dec_enc smallCd small_ok2.1 small_ok2.2
  have e : smallCd.enc.1 = smallCd.bytes := by decide +kernel
  rw [e]
  exact h
theorem enc_bytes {c : Cd} (h : c.enc.2 = 0) : c.enc.1 = c.bytes := by
  unfold Cd.enc at *
  split at h
  · rename_i h1
    rw [if_pos h1]
    split at h
    · cases h
    · rename_i h2
      rw [if_neg h2]
  · cases h
theorem dec_of_enc {c : Cd} (h : c.enc.2 = 0) : decR { data := c.enc.1.toArray } = (c, 0, 0) := by
  obtain ⟨h1, h2⟩ := enc_zero h
  rw [enc_bytes h]
  exact dec_enc c h1 h2
section
set_option maxHeartbeats 8000000
set_option maxRecDepth 100000
theorem round_any (hE : EncOk 7) (hD : DecOk 10) (c : Cd) (p : Option Addr) (cap : Nat) (p' : Option Addr) (cap' : Nat) (S : ByteArray) (w : World) (hS : ShIn w) (hW : WdIn w) (hEt : EtIn w) (hT : TextsIn w p c.texts) (hF : FunsIn w p' c.funs) :
    Calls Tryd.prog 5 #[.agg #[.slice p c.texts.length cap, .slice p' c.funs.length cap'], .string S] w fun e w' => e = .returned (.bool true) ∧ Below w.heap.size w w' := by
  have hk1 : Below w.heap.size w (w.alloc (Obj.cells #[Value.slice p c.texts.length cap, Value.slice p' c.funs.length cap'] 25)) := (Below.refl _ _).alloc (Nat.le_refl _) _
  have hb1 : CBox (w.alloc (Obj.cells #[Value.slice p c.texts.length cap, Value.slice p' c.funs.length cap'] 25)) w.heap.size p c.texts.length cap p' c.funs.length cap' := (MapKept.heap_alloc w _).1
  have HT : Hid (TextsIn _ p c.texts) := hT.below hk1
  have HF : Hid (FunsIn _ p' c.funs) := hF.below hk1
  have Hk1 : Hid _ := hk1
  have Hb1 : Hid (CBox _ _ _ _ _ _ _ _) := hb1
  have HE : Hid (EncOk 7) := hE
  have HD : Hid (DecOk 10) := hD
  have HTb0 : Hid (ShIn _ ∧ WdIn _ ∧ EtIn _) := ⟨hS.below hk1, hW.below hk1, hEt.below hk1⟩
  clear hk1 hb1 hT hF hE hD hS hW hEt
  go_enter Tryd.func5, Tryd.ntmps5
  go_wp2_with fail
  generalize w.alloc (Obj.cells #[Value.slice p c.texts.length cap, Value.slice p' c.funs.length cap'] 25) = w1 at *
  have HTb : Hid (∀ wx, Below w1.heap.size w1 wx → ShIn wx ∧ WdIn wx ∧ EtIn wx) := fun wx hx => ⟨ShIn.below HTb0.out.1 hx, WdIn.below HTb0.out.2.1 hx, EtIn.below HTb0.out.2.2 hx⟩
  refine (small_any w1).mono ?_
  rintro e1 w2 ⟨q, qcap, q', qcap', rfl, t2, f2, hb2⟩
  have Hb2 : Hid (Below w1.heap.size w1 w2) := hb2
  have Hcall : Hid _ := HE.out smallCd q qcap q' qcap' w2 (HTb.out w2 hb2).1 (HTb.out w2 hb2).2.1 t2 f2
  clear t2 f2 hb2
  go_wp2_with fail
  refine Calls.mono Hcall.out ?_
  rintro e2 w3 ⟨rfl, hb3⟩
  have H13 : Hid (Below w1.heap.size w1 w3) := Below.then Hb2.out hb3 (Nat.le_refl _)
  have hz : smallCd.enc.2 = 0 := by decide +kernel
  rw [hz]
  clear hb3 Hcall Hb2 hz
  have Hcall : Hid _ := HD.out.two small_dec w3 (HTb.out w3 H13.out).1 (HTb.out w3 H13.out).2.2
  go_wp2_with fail
  refine Calls.mono Hcall.out ?_
  rintro e3 w4 ⟨z, zcap, z', zcap', rfl, t4, f4, hb4⟩
  simp only at *
  obtain ⟨b1, b2, b3⟩ := boxes2 w4 z smallCd.texts.length zcap z' smallCd.funs.length zcap' 0 0
  have H15 : Hid (Below w1.heap.size w1 _) := Below.then (Below.then H13.out hb4 (Nat.le_refl _)) b3 (Nat.le_refl _)
  have T5 : Hid (TextsIn _ z smallCd.texts) := t4.below b3
  have F5 : Hid (FunsIn _ z' smallCd.funs) := f4.below b3
  have B1 : Hid (CBox _ _ _ _ _ _ _ _) := b1
  have B2 : Hid (EBox _ _ _ _) := b2
  have Hz : Hid (w1.heap.size ≤ w4.heap.size) := Nat.le_trans (Below.size H13.out) hb4.size
  clear t4 f4 hb4 b1 b2 b3 Hcall H13
  go_upto_region 3 with fail
  generalize (w4.alloc (Obj.cells #[Value.slice z smallCd.texts.length zcap, Value.slice z' smallCd.funs.length zcap'] 25)).alloc (Obj.cells #[Value.int IntKind.i64 0, Value.int IntKind.i64 0] 34) = w5 at *
  generalize hfb : w4.heap.size + 1 = fb at *
  generalize hdb : w4.heap.size = db at *
  have Hf : Hid (w1.heap.size ≤ fb ∧ w1.heap.size ≤ db) := by have := Hz.out; unfold Hid; omega
  clear hfb hdb Hz
  go_cut [9] from 20 to 22 (fun v wx => Hid (v = .bool true ∧ Below w5.heap.size w5 wx))
  case first =>
    refine region_any (C := fun wx => Below w5.heap.size w5 wx) (by kernel_rfl) ?_
    refine anyIn_read (i := 0) rfl (by kernel_rfl) (by kernel_rfl) (by kernel_rfl) (fun _ _ _ _ h => h) ?_
    apply Exists.intro
    refine ⟨Or.inl ⟨by rfl, fun wx hwx => ?_⟩, ?_⟩
    (obtain ⟨f0, f1, f2⟩ := CBox.cells (CBox.below B1.out hwx); go_simp; first | done | with_reducible rfl)
    have hCd : Below w5.heap.size w5 w5.drew := (Below.refl _ _).drew
    refine anyIn_one (i := 1) hCd rfl (by kernel_rfl) (fun K hK => ?_)
    go_simp
    refine Calls.mono (small_any _) ?_
    rintro e9 w6 ⟨y, ycap, y', ycap', rfl, t6, f6, hb6⟩
    refine hK _ _ ?_
    clear hK K
    have hC6 : Below w5.heap.size w5 w6 := Below.then hCd hb6 (Nat.le_refl _)
    have Hcall : Hid _ := same_row smallCd z zcap z' zcap' y ycap y' ycap' w6 (TextsIn.below T5.out hC6) t6 (FunsIn.below F5.out hC6) f6
    refine anyIn_one (i := 2) hC6 rfl (by kernel_rfl) (fun K hK => ?_)
    go_simp
    refine Calls.mono Hcall.out ?_
    rintro e9 w7 ⟨rfl, hb7⟩
    refine hK _ _ ?_
    clear hK K
    have hC7 : Below w5.heap.size w5 w7 := Below.then hC6 hb7 (Nat.le_refl _)
    refine anyIn_one (i := 3) hC7 rfl (by kernel_rfl) (fun K hK => ?_)
    go_simp
    refine hK _ _ ?_
    clear hK K
    refine anyIn_done hC7 (by kernel_rfl) ?_
    go_wp2_with fail
    go_meet
    exact ⟨rfl, hC7⟩
  case rest =>
    obtain ⟨rfl, hb6⟩ := hcut.out
    clear hcut
    rename World => w6
    have h16 : Below w1.heap.size w1 w6 := Below.then H15.out hb6 (Nat.le_refl _)
    have hB1 := CBox.below B1.out hb6
    have hB2 := EBox.below B2.out hb6
    have H16 : Hid _ := h16
    have HB1 : Hid (CBox _ _ _ _ _ _ _ _) := hB1
    have HB2 : Hid (EBox _ _ _ _) := hB2
    obtain ⟨x0, x1, x2⟩ := (CBox.below Hb1.out h16).cells
    obtain ⟨y0, y1, _⟩ := hB2.cells
    have y3 := hB2.lt
    have Hcall : Hid _ := HE.out c p cap p' cap' w6 (HTb.out w6 h16).1 (HTb.out w6 h16).2.1 (TextsIn.below HT.out h16) (FunsIn.below HF.out h16)
    clear hb6 h16 hB1 hB2 H15 T5 F5 B1 B2
    go_wp2_with fail
    refine Calls.mono Hcall.out ?_
    rintro e4 w7 ⟨rfl, hb7⟩
    have h17 : Below w1.heap.size w1 w7 := Below.then H16.out hb7 (Nat.le_refl _)
    have H17 : Hid _ := h17
    have HB1' : Hid (CBox _ _ _ _ _ _ _ _) := CBox.below HB1.out hb7
    have HB2' : Hid (EBox _ _ _ _) := EBox.below HB2.out hb7
    clear Hcall hb7 h17 x0 x1 x2 y0 y1 y3 HB1 HB2 H16
    obtain ⟨ek, hek⟩ : ∃ ek, c.enc.2 = ek := ⟨_, rfl⟩
    rw [hek]
    have Hek : Hid (c.enc.2 = ek) := hek
    clear hek
    go_upto_if 40 with fail
    go_cut [] from 40 to 55 (fun wx => Hid (Below w1.heap.size w1 wx ∧ (∃ x n xc x' n' xc', CBox wx db x n xc x' n' xc') ∧ ∃ k a, EBox wx fb k a))
    case first =>
      by_cases hk : ek = 0
      · have hk' : (ek == 0) = true := by simpa using hk
        have hdec := dec_of_enc (Hek.out.trans hk)
        have Hcall : Hid _ := HD.out.two hdec w7 (HTb.out w7 H17.out).1 (HTb.out w7 H17.out).2.2
        clear hdec hk
        go_wp2_with fail
        refine Calls.mono Hcall.out ?_
        rintro e5 w8 ⟨y, ycap, y', ycap', rfl, t8, f8, hb8⟩
        simp only at *
        have hB1 := CBox.below HB1'.out hb8
        have hB2 := EBox.below HB2'.out hb8
        obtain ⟨s1, s2, s3, s4⟩ := set2 hB1 hB2 y c.texts.length ycap y' c.funs.length ycap' 0 0
        have T9 : Hid (TextsIn _ y c.texts) := t8.set hB1 hB2 s3
        have F9 : Hid (FunsIn _ y' c.funs) := f8.set hB1 hB2 s3
        have h18 : Below w1.heap.size w1 w8 := Below.then H17.out hb8 (Nat.le_refl _)
        have h19 : Below w1.heap.size w1 ((((w8.setCell ⟨db, 0, none⟩ (.slice y c.texts.length ycap)).setCell ⟨db, 1, none⟩ (.slice y' c.funs.length ycap')).setCell ⟨fb, 0, none⟩ (.int .i64 0)).setCell ⟨fb, 1, none⟩ (.int .i64 0)) := h18.trans (s3.below h18.size (by have := Hf.out; simp; omega))
        have H19 : Hid _ := h19
        have S1 : Hid (CBox _ _ _ _ _ _ _ _) := s1
        have S2 : Hid (EBox _ _ _ _) := s2
        obtain ⟨x0, x1, x2⟩ := hB1.cells
        obtain ⟨y0, y1, y2⟩ := hB2.cells
        have y20 := y2 0
        have y21 := y2 1
        have y3 := hB2.lt
        have xf : w8.frozen? ⟨db, 0, none⟩ = false ∧ w8.frozen? ⟨db, 1, none⟩ = false := by
          have := hB1
          unfold CBox at this
          constructor <;> simp [World.frozen?, this]
        obtain ⟨xf0, xf1⟩ := xf
        have s4' : fb ≠ db := fun e => s4 e.symm
        clear t8 f8 hb8 hB1 hB2 s1 s2 s3 h18 h19 Hcall y2
        go_upto_region 9 with fail
        generalize (((w8.setCell ⟨db, 0, none⟩ (.slice y c.texts.length ycap)).setCell ⟨db, 1, none⟩ (.slice y' c.funs.length ycap')).setCell ⟨fb, 0, none⟩ (.int .i64 0)).setCell ⟨fb, 1, none⟩ (.int .i64 0) = w9 at *
        clear x0 x1 x2 y0 y1 y20 y21 y3 xf0 xf1
        obtain ⟨x0, x1, x2⟩ := CBox.cells S1.out
        obtain ⟨x3, x4, x5⟩ := (CBox.below Hb1.out H19.out).cells
        have Hcall : Hid _ := same_row c p cap p' cap' y ycap y' ycap' w9 (TextsIn.below HT.out H19.out) T9.out (FunsIn.below HF.out H19.out) F9.out
        go_wp2_with fail
        refine Calls.mono Hcall.out ?_
        rintro e6 w10 ⟨rfl, hb10⟩
        have S2' := EBox.below S2.out hb10
        obtain ⟨y0, y1, _⟩ := S2'.cells
        have y3 := S2'.lt
        have Q : Hid (Below w1.heap.size w1 w10 ∧ (∃ x n xc x' n' xc', CBox w10 db x n xc x' n' xc') ∧ ∃ k a, EBox w10 fb k a) := ⟨Below.then H19.out hb10 (Nat.le_refl _), ⟨_, _, _, _, _, _, CBox.below S1.out hb10⟩, _, _, S2'⟩
        clear x0 x1 x2 x3 x4 x5 hb10 S2' Hcall
        go_wp2
        go_meet
        exact Q.out
      · have hk' : (ek == 0) = false := by simpa using hk
        clear hk
        go_wp2
        go_meet
        exact ⟨H17.out, ⟨_, _, _, _, _, _, HB1'.out⟩, _, _, HB2'.out⟩
    case rest =>
      obtain ⟨h17, ⟨x, n, xc, x', n', xc', hB1⟩, k, a, hB2⟩ := hcut.out
      clear hcut H17 HB1' HB2' Hek
      rename World => w8
      have H18 : Hid _ := h17
      have HB1 : Hid (CBox _ _ _ _ _ _ _ _) := hB1
      have HB2 : Hid (EBox _ _ _ _) := hB2
      obtain ⟨D, hD⟩ : ∃ D, decR S = D := ⟨_, rfl⟩
      have Hcall : Hid _ := HD.out.two hD w8 (HTb.out w8 h17).1 (HTb.out w8 h17).2.2
      have HDD : Hid (decR S = D) := hD
      clear h17 hB1 hB2 hD
      go_wp2_with fail
      refine Calls.mono Hcall.out ?_
      rintro e5 w9 ⟨y, ycap, y', ycap', rfl, t9, f9, hb9⟩
      have hB1 := CBox.below HB1.out hb9
      have hB2 := EBox.below HB2.out hb9
      obtain ⟨s1, s2, s3, s4⟩ := set2 hB1 hB2 y D.1.texts.length ycap y' D.1.funs.length ycap' D.2.1 D.2.2
      have T9 : Hid (TextsIn _ y D.1.texts) := t9.set hB1 hB2 s3
      have F9 : Hid (FunsIn _ y' D.1.funs) := f9.set hB1 hB2 s3
      have h18 : Below w1.heap.size w1 w9 := Below.then H18.out hb9 (Nat.le_refl _)
      have h19 : Below w1.heap.size w1 ((((w9.setCell ⟨db, 0, none⟩ (.slice y D.1.texts.length ycap)).setCell ⟨db, 1, none⟩ (.slice y' D.1.funs.length ycap')).setCell ⟨fb, 0, none⟩ (.int .i64 D.2.1)).setCell ⟨fb, 1, none⟩ (.int .i64 D.2.2)) := h18.trans (s3.below h18.size (by have := Hf.out; simp; omega))
      have H19 : Hid _ := h19
      have S1 : Hid (CBox _ _ _ _ _ _ _ _) := s1
      have S2 : Hid (EBox _ _ _ _) := s2
      obtain ⟨x0, x1, x2⟩ := hB1.cells
      obtain ⟨y0, y1, y2⟩ := hB2.cells
      have y20 := y2 0
      have y21 := y2 1
      have y3 := hB2.lt
      have xf : w9.frozen? ⟨db, 0, none⟩ = false ∧ w9.frozen? ⟨db, 1, none⟩ = false := by
        have := hB1
        unfold CBox at this
        constructor <;> simp [World.frozen?, this]
      obtain ⟨xf0, xf1⟩ := xf
      have s4' : fb ≠ db := fun e => s4 e.symm
      clear t9 f9 hb9 hB1 hB2 s1 s2 s3 h18 h19 Hcall y2 H18 HB1 HB2
      go_upto_region 13 with fail
      generalize (((w9.setCell ⟨db, 0, none⟩ (.slice y D.1.texts.length ycap)).setCell ⟨db, 1, none⟩ (.slice y' D.1.funs.length ycap')).setCell ⟨fb, 0, none⟩ (.int .i64 D.2.1)).setCell ⟨fb, 1, none⟩ (.int .i64 D.2.2) = w10 at *
      clear x0 x1 x2 y0 y1 y20 y21 y3 xf0 xf1
      obtain ⟨x0, x1, x2⟩ := CBox.cells S1.out
      obtain ⟨y0, y1, _⟩ := EBox.cells S2.out
      have y3 := EBox.lt S2.out
      by_cases hk : D.2.1 = 0
      · have hk' : (D.2.1 == 0) = true := by simpa using hk
        have henc := enc_dec2 S (by rw [HDD.out]; exact hk)
        have hsz := enc_dec S (by rw [HDD.out]; exact hk)
        rw [HDD.out] at henc hsz
        have Hcall : Hid _ := HE.out D.1 y ycap y' ycap' w10 (HTb.out w10 H19.out).1 (HTb.out w10 H19.out).2.1 T9.out F9.out
        rw [henc] at Hcall
        have hS : ({ data := (bytesOf S).toArray } : ByteArray) = S := bytesOf_inj (by simp [bytesOf])
        rw [hS] at Hcall
        clear hk henc hsz hS
        go_wp2_with fail
        refine Calls.mono Hcall.out ?_
        rintro e6 w11 ⟨rfl, hb11⟩
        have Q : Hid (Below w.heap.size w w11) := Below.trans Hk1.out ((Below.then H19.out hb11 (Nat.le_refl _)).mono (Below.size Hk1.out))
        clear hb11 Hcall x0 x1 x2 y0 y1 y3
        go_wp2
        go_ret
        exact ⟨rfl, Q.out⟩
      · have hk' : (D.2.1 == 0) = false := by simpa using hk
        have Q : Hid (Below w.heap.size w w10) := Below.trans Hk1.out (Below.mono H19.out (Below.size Hk1.out))
        clear hk
        go_wp2
        go_ret
        exact ⟨rfl, Q.out⟩
end
end Go.Proofs.YtimdjcffmajmnaaDoor
