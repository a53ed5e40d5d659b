/-
  The law Checks, by what the program's own Check is said to do.
-/
import Derived.Test.YtlekoldicnfeeaaDoorX34
import Derived.Test.YtlekoldicnfeeaaDoorC6
import Derived.Test.YtlekoldicnfeeaaDoorK7
namespace Go.Proofs.YtlekoldicnfeeaaDoor
open Go.RowKit Go.Deep
def ChkOk (n : Nat) : Prop := ∀ (c : Cd) (p : Option Addr) (cap : Nat) (p' : Option Addr) (cap' : Nat) (w : World), ShIn w → SgIn w → FunsIn w p' c.funs → c.ok = true → Calls Tryd.prog n #[.agg #[.slice p c.texts.length cap, .slice p' c.funs.length cap']] w fun e w' => e = .returned (.agg #[.int .i64 c.chk.1, .int .i64 c.chk.2]) ∧ Below w.heap.size w w'
theorem chkOk13 : ChkOk 13 := fun c p cap p' cap' w hS hG hF h => chkC_any c p cap p' cap' w hS hG hF h
theorem small_ok : smallCd.ok = true ∧ smallCd.bytes.length ≤ 4000000 ∧ smallCd.chk = (0, 0) := by decide +kernel
theorem enc_zero {c : Cd} (h : c.enc.2 = 0) : c.ok = true ∧ c.bytes.length ≤ 4000000 := by
  unfold Cd.enc at h
  split at h
  · rename_i h1
    split at h
    · cases h
    · rename_i h2
      exact ⟨h1, by omega⟩
  · cases h
section
set_option maxHeartbeats 8000000
set_option maxRecDepth 100000
theorem proper_any (c : Cd) (p : Option Addr) (cap : Nat) (p' : Option Addr) (cap' : Nat) (w : World) (hT : TextsIn w p c.texts) (hF : FunsIn w p' c.funs) (hl : c.bytes.length ≤ 1000000000) :
    Calls Tryd.prog 14 #[.agg #[.slice p c.texts.length cap, .slice p' c.funs.length cap']] w fun e w' => e = .returned (.bool (c.enc.2 == 0)) ∧ Below w.heap.size w w' := by
  have hk1 : Below w.heap.size w (w.alloc (Obj.cells #[Value.slice p c.texts.length cap, Value.slice p' c.funs.length cap'] 25)) := (Below.refl _ _).alloc (Nat.le_refl _) _
  have Hcall : Hid _ := encode_any c p cap p' cap' _ (hT.below hk1) (hF.below hk1) hl
  have Hk1 : Hid _ := hk1
  clear hk1
  go_enter Tryd.func14, Tryd.ntmps14
  go_wp2_with fail
  refine Calls.mono Hcall.out ?_
  rintro e1 w1 ⟨rfl, hb⟩
  have Q : Hid (Below w.heap.size w w1) := Below.trans Hk1.out (hb.mono (Below.size Hk1.out))
  clear hb Hcall Hk1
  go_wp2
  go_ret
  exact ⟨rfl, Q.out⟩
theorem checks_any (hC : ChkOk 13) (c : Cd) (p : Option Addr) (cap : Nat) (p' : Option Addr) (cap' : Nat) (w : World) (hS : ShIn w) (hG : SgIn w) (hT : TextsIn w p c.texts) (hF : FunsIn w p' c.funs) (hl : c.bytes.length ≤ 1000000000) :
    Calls Tryd.prog 6 #[.agg #[.slice p c.texts.length cap, .slice p' c.funs.length cap']] w fun e w' => e = .returned (.bool true) ∧ Below w.heap.size w w' := by
  have hk1 : Below w.heap.size w (w.alloc (Obj.cells #[Value.slice p c.texts.length cap, Value.slice p' c.funs.length cap'] 25)) := (Below.refl _ _).alloc (Nat.le_refl _) _
  have hb1 : CBox (w.alloc (Obj.cells #[Value.slice p c.texts.length cap, Value.slice p' c.funs.length cap'] 25)) w.heap.size p c.texts.length cap p' c.funs.length cap' := (MapKept.heap_alloc w _).1
  have HT : Hid (TextsIn _ p c.texts) := hT.below hk1
  have HF : Hid (FunsIn _ p' c.funs) := hF.below hk1
  have Hk1 : Hid _ := hk1
  have Hb1 : Hid (CBox _ _ _ _ _ _ _ _) := hb1
  have HC : Hid (ChkOk 13) := hC
  have HS : Hid (ShIn _) := hS.below hk1
  have HG : Hid (SgIn _) := hG.below hk1
  have Hl : Hid (c.bytes.length ≤ 1000000000) := hl
  clear hk1 hb1 hT hF hC hl hS hG
  go_enter Tryd.func6, Tryd.ntmps6
  go_wp2_with fail
  generalize w.alloc (Obj.cells #[Value.slice p c.texts.length cap, Value.slice p' c.funs.length cap'] 25) = w1 at *
  refine (small_any w1).mono ?_
  rintro e1 w2 ⟨q, qcap, q', qcap', rfl, t2, f2, hb2⟩
  have Hb2 : Hid (Below w1.heap.size w1 w2) := hb2
  have Hcall : Hid _ := HC.out smallCd q qcap q' qcap' w2 (ShIn.below HS.out hb2) (SgIn.below HG.out hb2) f2 small_ok.1
  clear t2 f2 hb2
  rw [small_ok.2.2] at Hcall
  go_wp2_with fail
  refine Calls.mono Hcall.out ?_
  rintro e2 w3 ⟨rfl, hb3⟩
  have h13 : Below w1.heap.size w1 w3 := Below.then Hb2.out hb3 (Nat.le_refl _)
  have h14 : Below w1.heap.size w1 (w3.alloc (Obj.cells #[Value.int IntKind.i64 0, Value.int IntKind.i64 0] 34)) := h13.alloc h13.size _
  have hE4 : EBox (w3.alloc (Obj.cells #[Value.int IntKind.i64 0, Value.int IntKind.i64 0] 34)) w3.heap.size 0 0 := (MapKept.heap_alloc w3 _).1
  have H13 : Hid (w1.heap.size ≤ w3.heap.size) := h13.size
  have H14 : Hid _ := h14
  have HE4 : Hid (EBox _ _ _ _) := hE4
  clear hb3 Hcall Hb2 h13 h14 hE4
  go_upto_region 2 with fail
  generalize w3.alloc (Obj.cells #[Value.int IntKind.i64 0, Value.int IntKind.i64 0] 34) = w4 at *
  generalize w3.heap.size = eb at *
  obtain ⟨x0, x1, x2⟩ := (CBox.below Hb1.out H14.out).cells
  obtain ⟨y0, y1, _⟩ := EBox.cells HE4.out
  have y3 := EBox.lt HE4.out
  have Hcall : Hid _ := proper_any c p cap p' cap' w4 (TextsIn.below HT.out H14.out) (FunsIn.below HF.out H14.out) Hl.out
  go_wp2_with fail
  refine Calls.mono Hcall.out ?_
  rintro e3 w5 ⟨rfl, hb5⟩
  have h15 : Below w1.heap.size w1 w5 := Below.then H14.out hb5 (Nat.le_refl _)
  have hE5 := EBox.below HE4.out hb5
  have hw5 : Below w.heap.size w w5 := Below.trans Hk1.out (h15.mono (Below.size Hk1.out))
  have H15 : Hid _ := h15
  have HE5 : Hid (EBox _ _ _ _) := hE5
  have HW5 : Hid _ := hw5
  clear Hcall hb5 x0 x1 x2 y0 y1 y3 h15 hE5 hw5
  cases hz : (c.enc.2 == 0) with
  | false =>
    go_wp2
    go_ret
    exact ⟨rfl, HW5.out⟩
  | true =>
    have hz' : c.enc.2 = 0 := by simpa using hz
    obtain ⟨k1, k2⟩ := enc_zero hz'
    obtain ⟨x0, x1, x2⟩ := (CBox.below Hb1.out H15.out).cells
    have Hcall : Hid _ := HC.out c p cap p' cap' w5 (ShIn.below HS.out H15.out) (SgIn.below HG.out H15.out) (FunsIn.below HF.out H15.out) k1
    have Hchk : Hid (∀ wx, TextsIn wx p c.texts → FunsIn wx p' c.funs → _) := fun wx h1 h2 => check_any c p cap p' cap' wx h2 k1
    clear hz hz' k1 k2
    generalize c.chk = R at *
    obtain ⟨rk, ra⟩ := R
    simp only at *
    go_wp2_with fail
    refine Calls.mono Hcall.out ?_
    rintro e4 w6 ⟨rfl, hb6⟩
    have h16 : Below w1.heap.size w1 w6 := Below.then H15.out hb6 (Nat.le_refl _)
    have hE6 := EBox.below HE5.out hb6
    obtain ⟨y0, y1, y2⟩ := hE6.cells
    have y20 := y2 0
    have y21 := y2 1
    have y3 := hE6.lt
    have hset := hE6.set2 rk ra
    have h17 : Below w1.heap.size w1 ((w6.setCell ⟨eb, 0, none⟩ (.int .i64 rk)).setCell ⟨eb, 1, none⟩ (.int .i64 ra)) := (h16.setCell (p := ⟨eb, 0, none⟩) H13.out _).setCell (p := ⟨eb, 1, none⟩) H13.out _
    have H17 : Hid _ := h17
    have HE7 : Hid (EBox _ _ _ _) := hset
    clear Hcall x0 x1 x2 hE6 hset h17 h16 hb6 y2 H15 HE5
    go_upto_region 8 with fail
    generalize (w6.setCell ⟨eb, 0, none⟩ (.int .i64 rk)).setCell ⟨eb, 1, none⟩ (.int .i64 ra) = w7 at *
    have Hcl : Hid (∀ wx, Below w7.heap.size w7 wx → (wx.cell? ⟨w.heap.size, 0, none⟩ = some (.slice p c.texts.length cap) ∧ wx.cell? ⟨w.heap.size, 1, none⟩ = some (.slice p' c.funs.length cap') ∧ w.heap.size < wx.heap.size) ∧ (wx.cell? ⟨eb, 0, none⟩ = some (.int .i64 rk) ∧ wx.cell? ⟨eb, 1, none⟩ = some (.int .i64 ra) ∧ eb < wx.heap.size) ∧ TextsIn wx p c.texts ∧ FunsIn wx p' c.funs) := fun wx hx => by
      have h1x : Below w1.heap.size w1 wx := Below.then H17.out hx (Nat.le_refl _)
      have he := EBox.below HE7.out hx
      exact ⟨(CBox.below Hb1.out h1x).cells, ⟨he.cells.1, he.cells.2.1, he.lt⟩, TextsIn.below HT.out h1x, FunsIn.below HF.out h1x⟩
    have hg := guard34
    have heq := eq34 rk ra
    refine region_in (C := fun wx => Below w7.heap.size w7 wx) (by kernel_rfl) (by kernel_rfl) ((Below.refl _ _).drew) ?_
    repeat
      refine wpQuiet_step (fun K hK => ?_)
      first
        | (go_simp; refine hK _ ?_; clear hK K)
        | (rw [if_pos (by rfl)]; apply Exists.intro; refine ⟨fun wx hwx => ?_, hK _ ?_⟩; (obtain ⟨⟨m0, m1, m2⟩, ⟨m3, m4, m5⟩, m6, m7⟩ := Hcl.out wx hwx; unfold Oper.quietAt; go_simp; first | done | rfl | exact ⟨rfl, rfl⟩ | (refine Calls.mono (Hchk.out _ m6 m7) ?_; rintro e9 w9 ⟨rfl, hb9⟩; exact ⟨rfl, Below.then hwx hb9 (Nat.le_refl _)⟩)); clear hK K; go_simp)
    refine wpQuiet_nil ?_
    intro w9 hw9
    have Q : Hid (Below w.heap.size w w9) := Below.trans Hk1.out ((Below.then H17.out hw9 (Nat.le_refl _)).mono (Below.size Hk1.out))
    clear hw9
    go_wp2
    go_ret
    exact ⟨rfl, Q.out⟩
end
end Go.Proofs.YtlekoldicnfeeaaDoor
