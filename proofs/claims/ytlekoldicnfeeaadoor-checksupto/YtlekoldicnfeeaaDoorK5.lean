/-
  The program's Check: may an instruction's operands be (operands).
-/
import Derived.Test.YtlekoldicnfeeaaDoorK4
namespace Go.Proofs.YtlekoldicnfeeaaDoor
open Go.RowKit Go.Deep
theorem ok_a {k : Nat} {a b : Int} (hk : k < 26) (h : In.ok ⟨k, a, b⟩ = true) (h0 : k ≠ 0) (h9 : k ≠ 9) : 0 ≤ a := by
  rw [In.ok_both ⟨k, a, b⟩ (isOp_of hk), Bool.and_eq_true] at h
  have h1 : argOk (form k) 0 a = true := h.1
  rcases kind_form k hk with ⟨g1, g2⟩ | ⟨g1, g2⟩ | ⟨g1, g2⟩ | ⟨g1, g2⟩
  · rw [g2, argOk_none [] 0 rfl] at h1
    have : a = 0 := by simpa using h1
    omega
  · rcases nats26 k hk with rfl | rfl | rfl | rfl | rfl | rfl | rfl | rfl | rfl | rfl | rfl | rfl | rfl | rfl | rfl | rfl | rfl | rfl | rfl | rfl | rfl | rfl | rfl | rfl | rfl | rfl <;> first | (exact absurd rfl h0) | (exact absurd rfl h9) | (exact absurd g1 (by decide))
  · rw [g2, argOk_n [110] 0 rfl] at h1
    exact (two_range h1).1
  · rw [g2, argOk_n [110, 110] 0 rfl] at h1
    exact (two_range h1).1
section
set_option maxHeartbeats 16000000
set_option maxRecDepth 100000
theorem operC_any (w : World) (p : Option Addr) (nt cap : Nat) (p' : Option Addr) (cap' : Nat) (fs : List Fn) (num : Nat) (hnum : num < fs.length) (k : Nat) (hk : k < 26) (a c : Int) (hx : In.ok ⟨k, a, c⟩ = true) (hF : FunsIn w p' fs) (hn : nt ≤ 2 ^ 62 ∧ fs.length ≤ 2 ^ 62) :
    Calls Tryd.prog 46 #[.agg #[.slice p nt cap, .slice p' fs.length cap'], .int .i64 num, .agg #[.int .i64 k, .int .i64 a, .int .i64 c]] w fun e w' => e = .returned (.int .i64 (operandsP nt fs.length (fs[num]'hnum) ⟨k, a, c⟩ (decide (num = 0)))) ∧ Below w.heap.size w w' := by
  have hb2 : Below w.heap.size w ((w.alloc (.cells #[.slice p nt cap, .slice p' fs.length cap'] 25)).alloc (.cells #[.int .i64 k, .int .i64 a, .int .i64 c] 47)) := ((Below.refl w.heap.size w).alloc (Nat.le_refl _) _).alloc (by simp) _
  have hC : CBox ((w.alloc (.cells #[.slice p nt cap, .slice p' fs.length cap'] 25)).alloc (.cells #[.int .i64 k, .int .i64 a, .int .i64 c] 47)) w.heap.size p nt cap p' fs.length cap' := (Below.heap_alloc _ _ _ (by simp)).trans (MapKept.heap_alloc w _).1
  have hI : IBox ((w.alloc (.cells #[.slice p nt cap, .slice p' fs.length cap'] 25)).alloc (.cells #[.int .i64 k, .int .i64 a, .int .i64 c] 47)) (w.heap.size + 1) ⟨k, a, c⟩ := by
    have := (MapKept.heap_alloc (w.alloc (.cells #[.slice p nt cap, .slice p' fs.length cap'] 25)) (.cells #[.int .i64 k, .int .i64 a, .int .i64 c] 47)).1
    rw [show (w.alloc (.cells #[.slice p nt cap, .slice p' fs.length cap'] 25)).heap.size = w.heap.size + 1 by simp] at this
    exact this
  obtain ⟨fb, fo, q, qc, rfl, hbw, hfc, hIn⟩ := (hF.below hb2).get num hnum
  have hnl := hIn.len
  generalize fs[num]'hnum = f at *
  have Hb2 : Hid (Below _ _ _) := hb2
  have HC : Hid (CBox _ _ _ _ _ _ _ _) := hC
  have HI : Hid (IBox _ _ _) := hI
  have hnum' : (num : Int) < fs.length := by omega
  have hcb : In.ok ⟨k, a, c⟩ = true → k = 23 → 0 ≤ c := fun h h23 => by
    subst h23
    exact (two_range (In.ok_two h rfl).2).1
  have Hcb : Hid _ := hcb hx
  have Hbel : Hid (k ≠ 0 → k ≠ 9 → ∀ (n : Int) (wx : World), Calls Tryd.prog 53 #[.int .i64 a, .int .i64 n] wx fun e w' => e = .returned (.bool (decide (a < n))) ∧ w' = wx) := fun h0 h9 n wx => by
    have h1 := ok_a hk hx h0 h9
    have h2 := below_any a n wx
    rw [decide_eq_true h1, Bool.true_and] at h2
    exact h2
  obtain ⟨n1, n2⟩ := hn
  obtain ⟨y0, y1, y2⟩ := hfc
  obtain ⟨main, hmain⟩ : ∃ m, m = decide (num = 0) := ⟨_, rfl⟩
  rw [← hmain]
  have Hmain : Hid (main = decide (num = 0)) := hmain
  obtain ⟨R, hR⟩ : ∃ R, R = operandsP nt fs.length f ⟨k, a, c⟩ main := ⟨_, rfl⟩
  rw [← hR]
  have HR : Hid (R = operandsP nt fs.length f ⟨k, a, c⟩ main) := hR
  clear hb2 hC hI hIn hcb hx hF hmain hR
  go_enter Tryd.func46, Tryd.ntmps46
  go_upto_region 1 with fail
  generalize (w.alloc (.cells #[.slice p nt cap, .slice (some ⟨fb, fo, none⟩) fs.length cap'] 25)).alloc (.cells #[.int .i64 k, .int .i64 a, .int .i64 c] 47) = w0 at *
  obtain ⟨x0, x1, x2⟩ := CBox.cells HC.out
  have hb3 : Below w0.heap.size w0 (w0.alloc (.cells #[.int .i64 f.free, .int .i64 f.slots, .slice q f.ins.length qc] 50)) := (Below.refl _ _).alloc (Nat.le_refl _) _
  have Hb3 : Hid (Below _ _ _) := hb3
  have HFb : Hid (FBox _ w0.heap.size f q qc) := (MapKept.heap_alloc w0 _).1
  have hsz : w.heap.size + 1 < w0.heap.size := (IBox.cells HI.out).2.2.2
  clear hb3
  go_upto_region 2 with fail
  clear x0 x1 x2 y0 y1 y2 hbw
  generalize w0.alloc (.cells #[.int .i64 f.free, .int .i64 f.slots, .slice q f.ins.length qc] 50) = w1 at *
  have HB : Hid (Below w.heap.size w w1) := Below.trans Hb2.out (Below.mono Hb3.out (Below.size Hb2.out))
  obtain ⟨x0, x1, x2⟩ := CBox.cells (CBox.below HC.out Hb3.out)
  obtain ⟨y0, y1, y2, y3⟩ := IBox.cells (IBox.kp HI.out (Kp.of_below (X := []) Hb3.out) (by simp))
  obtain ⟨z0, z1, z2, z3⟩ := FBox.cells HFb.out
  simp only at y0 y1 y2
  clear Hb2 HC HI Hb3 HFb
  generalize w.heap.size + 1 = ib at *
  generalize w0.heap.size = fbx at *
  by_cases h18 : k = 18
  · have hkv : (k : Int) = 18 := by omega
    have b18 : ((k : Int) == 18) = true := by simp; omega
    have Hba : Hid _ := Hbel.out (by omega) (by omega)
    clear Hbel Hcb h18
    by_cases ca : a < f.ins.length
    · have cb : ¬ (f.ins.length : Int) ≤ a := by omega
      have hR2 : R = 0 := by rw [HR.out]; unfold operandsP opOk; simp [hkv, cb]
      subst hR2
      clear hkv HR
      have Hc0 : Hid _ := Hba.out (f.ins.length : Int) w1
      rw [decide_eq_true ca] at Hc0
      go_wp2_with fail
      refine Calls.mono Hc0.out ?_
      rintro e9 w9 ⟨rfl, rfl⟩
      go_wp2
      go_ret
      exact ⟨rfl, HB.out⟩
    · have cb : (f.ins.length : Int) ≤ a := by omega
      have hR2 : R = 19 := by rw [HR.out]; unfold operandsP opOk; simp [hkv, cb]
      subst hR2
      clear hkv HR
      have Hc0 : Hid _ := Hba.out (f.ins.length : Int) w1
      rw [decide_eq_false ca] at Hc0
      go_wp2_with fail
      refine Calls.mono Hc0.out ?_
      rintro e9 w9 ⟨rfl, rfl⟩
      go_wp2
      go_ret
      exact ⟨rfl, HB.out⟩
  by_cases h19 : k = 19
  · have hkv : (k : Int) = 19 := by omega
    have b18 : ((k : Int) == 18) = false := by simp; omega
    have b19 : ((k : Int) == 19) = true := by simp; omega
    have Hba : Hid _ := Hbel.out (by omega) (by omega)
    clear Hbel Hcb h18 h19
    by_cases ca : a < f.ins.length
    · have cb : ¬ (f.ins.length : Int) ≤ a := by omega
      have hR2 : R = 0 := by rw [HR.out]; unfold operandsP opOk; simp [hkv, cb]
      subst hR2
      clear hkv HR
      have Hc0 : Hid _ := Hba.out (f.ins.length : Int) w1
      rw [decide_eq_true ca] at Hc0
      go_wp2_with fail
      refine Calls.mono Hc0.out ?_
      rintro e9 w9 ⟨rfl, rfl⟩
      go_wp2
      go_ret
      exact ⟨rfl, HB.out⟩
    · have cb : (f.ins.length : Int) ≤ a := by omega
      have hR2 : R = 19 := by rw [HR.out]; unfold operandsP opOk; simp [hkv, cb]
      subst hR2
      clear hkv HR
      have Hc0 : Hid _ := Hba.out (f.ins.length : Int) w1
      rw [decide_eq_false ca] at Hc0
      go_wp2_with fail
      refine Calls.mono Hc0.out ?_
      rintro e9 w9 ⟨rfl, rfl⟩
      go_wp2
      go_ret
      exact ⟨rfl, HB.out⟩
  by_cases h20 : k = 20
  · have hkv : (k : Int) = 20 := by omega
    have b18 : ((k : Int) == 18) = false := by simp; omega
    have b19 : ((k : Int) == 19) = false := by simp; omega
    have b20 : ((k : Int) == 20) = true := by simp; omega
    have Hba : Hid _ := Hbel.out (by omega) (by omega)
    clear Hbel Hcb h18 h19 h20
    by_cases ca : a < f.ins.length
    · have cb : ¬ (f.ins.length : Int) ≤ a := by omega
      have hR2 : R = 0 := by rw [HR.out]; unfold operandsP opOk; simp [hkv, cb]
      subst hR2
      clear hkv HR
      have Hc0 : Hid _ := Hba.out (f.ins.length : Int) w1
      rw [decide_eq_true ca] at Hc0
      go_wp2_with fail
      refine Calls.mono Hc0.out ?_
      rintro e9 w9 ⟨rfl, rfl⟩
      go_wp2
      go_ret
      exact ⟨rfl, HB.out⟩
    · have cb : (f.ins.length : Int) ≤ a := by omega
      have hR2 : R = 19 := by rw [HR.out]; unfold operandsP opOk; simp [hkv, cb]
      subst hR2
      clear hkv HR
      have Hc0 : Hid _ := Hba.out (f.ins.length : Int) w1
      rw [decide_eq_false ca] at Hc0
      go_wp2_with fail
      refine Calls.mono Hc0.out ?_
      rintro e9 w9 ⟨rfl, rfl⟩
      go_wp2
      go_ret
      exact ⟨rfl, HB.out⟩
  by_cases h1 : k = 1
  · have hkv : (k : Int) = 1 := by omega
    have b18 : ((k : Int) == 18) = false := by simp; omega
    have b19 : ((k : Int) == 19) = false := by simp; omega
    have b20 : ((k : Int) == 20) = false := by simp; omega
    have b1 : ((k : Int) == 1) = true := by simp; omega
    have Hba : Hid _ := Hbel.out (by omega) (by omega)
    clear Hbel Hcb h18 h19 h20 h1
    by_cases ca : a < nt
    · have hR2 : R = 0 := by rw [HR.out]; unfold operandsP opOk; simp [hkv, ca]
      subst hR2
      clear hkv HR
      have Hc0 : Hid _ := Hba.out (nt : Int) w1
      rw [decide_eq_true ca] at Hc0
      go_wp2_with fail
      refine Calls.mono Hc0.out ?_
      rintro e9 w9 ⟨rfl, rfl⟩
      go_wp2
      go_ret
      exact ⟨rfl, HB.out⟩
    · have hR2 : R = 17 := by rw [HR.out]; unfold operandsP opOk; simp [hkv, ca]
      subst hR2
      clear hkv HR
      have Hc0 : Hid _ := Hba.out (nt : Int) w1
      rw [decide_eq_false ca] at Hc0
      go_wp2_with fail
      refine Calls.mono Hc0.out ?_
      rintro e9 w9 ⟨rfl, rfl⟩
      go_wp2
      go_ret
      exact ⟨rfl, HB.out⟩
  by_cases h23 : k = 23
  · have hkv : (k : Int) = 23 := by omega
    have b18 : ((k : Int) == 18) = false := by simp; omega
    have b19 : ((k : Int) == 19) = false := by simp; omega
    have b20 : ((k : Int) == 20) = false := by simp; omega
    have b1 : ((k : Int) == 1) = false := by simp; omega
    have b23 : ((k : Int) == 23) = true := by simp; omega
    have Hba : Hid _ := Hbel.out (by omega) (by omega)
    have hc0 := Hcb.out h23
    have Hbc : Hid (∀ (n : Int) (wx : World), Calls Tryd.prog 53 #[.int .i64 c, .int .i64 n] wx fun e w2 => e = .returned (.bool (decide (c < n))) ∧ w2 = wx) := fun n wx => by
      have h2 := below_any c n wx
      rw [decide_eq_true hc0, Bool.true_and] at h2
      exact h2
    clear Hbel Hcb h18 h19 h20 h1 h23
    by_cases ca : a < nt
    · by_cases cc : c < 2
      · have hR2 : R = 0 := by rw [HR.out]; unfold operandsP opOk; simp [hkv, ca, cc]
        subst hR2
        clear hkv HR
        have Hc0 : Hid _ := Hba.out (nt : Int) w1
        rw [decide_eq_true ca] at Hc0
        have Hc1 : Hid _ := Hbc.out 2 w1
        rw [decide_eq_true cc] at Hc1
        go_wp2_with fail
        refine Calls.mono Hc0.out ?_
        rintro e9 w9 ⟨rfl, rfl⟩
        go_wp2_with fail
        refine Calls.mono Hc1.out ?_
        rintro e9 w9 ⟨rfl, rfl⟩
        go_wp2
        go_ret
        exact ⟨rfl, HB.out⟩
      · have hR2 : R = 17 := by rw [HR.out]; unfold operandsP opOk; simp [hkv, ca, cc]
        subst hR2
        clear hkv HR
        have Hc0 : Hid _ := Hba.out (nt : Int) w1
        rw [decide_eq_true ca] at Hc0
        have Hc1 : Hid _ := Hbc.out 2 w1
        rw [decide_eq_false cc] at Hc1
        go_wp2_with fail
        refine Calls.mono Hc0.out ?_
        rintro e9 w9 ⟨rfl, rfl⟩
        go_wp2_with fail
        refine Calls.mono Hc1.out ?_
        rintro e9 w9 ⟨rfl, rfl⟩
        go_wp2
        go_ret
        exact ⟨rfl, HB.out⟩
    · have hR2 : R = 17 := by rw [HR.out]; unfold operandsP opOk; simp [hkv, ca]
      subst hR2
      clear hkv HR
      have Hc0 : Hid _ := Hba.out (nt : Int) w1
      rw [decide_eq_false ca] at Hc0
      go_wp2_with fail
      refine Calls.mono Hc0.out ?_
      rintro e9 w9 ⟨rfl, rfl⟩
      go_wp2
      go_ret
      exact ⟨rfl, HB.out⟩
  by_cases h2 : k = 2
  · have hkv : (k : Int) = 2 := by omega
    have b18 : ((k : Int) == 18) = false := by simp; omega
    have b19 : ((k : Int) == 19) = false := by simp; omega
    have b20 : ((k : Int) == 20) = false := by simp; omega
    have b1 : ((k : Int) == 1) = false := by simp; omega
    have b23 : ((k : Int) == 23) = false := by simp; omega
    have b2 : ((k : Int) == 2) = true := by simp; omega
    have Hba : Hid _ := Hbel.out (by omega) (by omega)
    clear Hbel Hcb h18 h19 h20 h1 h23 h2
    by_cases ca : a < 12
    · have hR2 : R = 0 := by rw [HR.out]; unfold operandsP opOk; simp [hkv, ca]
      subst hR2
      clear hkv HR
      have Hc0 : Hid _ := Hba.out (12 : Int) w1
      rw [decide_eq_true ca] at Hc0
      go_wp2_with fail
      refine Calls.mono Hc0.out ?_
      rintro e9 w9 ⟨rfl, rfl⟩
      go_wp2
      go_ret
      exact ⟨rfl, HB.out⟩
    · have hR2 : R = 17 := by rw [HR.out]; unfold operandsP opOk; simp [hkv, ca]
      subst hR2
      clear hkv HR
      have Hc0 : Hid _ := Hba.out (12 : Int) w1
      rw [decide_eq_false ca] at Hc0
      go_wp2_with fail
      refine Calls.mono Hc0.out ?_
      rintro e9 w9 ⟨rfl, rfl⟩
      go_wp2
      go_ret
      exact ⟨rfl, HB.out⟩
  by_cases h12 : k = 12
  · have hkv : (k : Int) = 12 := by omega
    have b18 : ((k : Int) == 18) = false := by simp; omega
    have b19 : ((k : Int) == 19) = false := by simp; omega
    have b20 : ((k : Int) == 20) = false := by simp; omega
    have b1 : ((k : Int) == 1) = false := by simp; omega
    have b23 : ((k : Int) == 23) = false := by simp; omega
    have b2 : ((k : Int) == 2) = false := by simp; omega
    have b12 : ((k : Int) == 12) = true := by simp; omega
    have Hba : Hid _ := Hbel.out (by omega) (by omega)
    clear Hbel Hcb h18 h19 h20 h1 h23 h2 h12
    by_cases ca : a < 15
    · have hR2 : R = 0 := by rw [HR.out]; unfold operandsP opOk; simp [hkv, ca]
      subst hR2
      clear hkv HR
      have Hc0 : Hid _ := Hba.out (15 : Int) w1
      rw [decide_eq_true ca] at Hc0
      go_wp2_with fail
      refine Calls.mono Hc0.out ?_
      rintro e9 w9 ⟨rfl, rfl⟩
      go_wp2
      go_ret
      exact ⟨rfl, HB.out⟩
    · have hR2 : R = 17 := by rw [HR.out]; unfold operandsP opOk; simp [hkv, ca]
      subst hR2
      clear hkv HR
      have Hc0 : Hid _ := Hba.out (15 : Int) w1
      rw [decide_eq_false ca] at Hc0
      go_wp2_with fail
      refine Calls.mono Hc0.out ?_
      rintro e9 w9 ⟨rfl, rfl⟩
      go_wp2
      go_ret
      exact ⟨rfl, HB.out⟩
  by_cases h24 : k = 24
  · have hkv : (k : Int) = 24 := by omega
    have b18 : ((k : Int) == 18) = false := by simp; omega
    have b19 : ((k : Int) == 19) = false := by simp; omega
    have b20 : ((k : Int) == 20) = false := by simp; omega
    have b1 : ((k : Int) == 1) = false := by simp; omega
    have b23 : ((k : Int) == 23) = false := by simp; omega
    have b2 : ((k : Int) == 2) = false := by simp; omega
    have b12 : ((k : Int) == 12) = false := by simp; omega
    have b24 : ((k : Int) == 24) = true := by simp; omega
    have Hba : Hid _ := Hbel.out (by omega) (by omega)
    clear Hbel Hcb h18 h19 h20 h1 h23 h2 h12 h24
    by_cases ca : a < 6
    · have hR2 : R = 0 := by rw [HR.out]; unfold operandsP opOk; simp [hkv, ca]
      subst hR2
      clear hkv HR
      have Hc0 : Hid _ := Hba.out (6 : Int) w1
      rw [decide_eq_true ca] at Hc0
      go_wp2_with fail
      refine Calls.mono Hc0.out ?_
      rintro e9 w9 ⟨rfl, rfl⟩
      go_wp2
      go_ret
      exact ⟨rfl, HB.out⟩
    · have hR2 : R = 17 := by rw [HR.out]; unfold operandsP opOk; simp [hkv, ca]
      subst hR2
      clear hkv HR
      have Hc0 : Hid _ := Hba.out (6 : Int) w1
      rw [decide_eq_false ca] at Hc0
      go_wp2_with fail
      refine Calls.mono Hc0.out ?_
      rintro e9 w9 ⟨rfl, rfl⟩
      go_wp2
      go_ret
      exact ⟨rfl, HB.out⟩
  by_cases h3 : k = 3
  · have hkv : (k : Int) = 3 := by omega
    have b18 : ((k : Int) == 18) = false := by simp; omega
    have b19 : ((k : Int) == 19) = false := by simp; omega
    have b20 : ((k : Int) == 20) = false := by simp; omega
    have b1 : ((k : Int) == 1) = false := by simp; omega
    have b23 : ((k : Int) == 23) = false := by simp; omega
    have b2 : ((k : Int) == 2) = false := by simp; omega
    have b12 : ((k : Int) == 12) = false := by simp; omega
    have b24 : ((k : Int) == 24) = false := by simp; omega
    have b3 : ((k : Int) == 3) = true := by simp; omega
    clear Hbel Hcb h18 h19 h20 h1 h23 h2 h12 h24 h3
    by_cases cn : num = 0
    · have hm : main = true := by rw [Hmain.out]; exact decide_eq_true cn
      have cn2 : ¬ (0 : Int) < num := by omega
      have hR2 : R = 17 := by rw [HR.out]; unfold operandsP opOk; simp [hkv, hm]
      subst hR2
      clear hkv HR
      clear hm
      have cn3 : decide (0 < num) = false := decide_eq_false (by omega)
      have cn4 : decide ((0 : Int) < num) = false := decide_eq_false cn2
      clear cn
      go_wp2
      go_ret
      exact ⟨rfl, HB.out⟩
    · have hm : main = false := by rw [Hmain.out]; exact decide_eq_false cn
      have cn2 : (0 : Int) < num := by omega
      have hR2 : R = 0 := by rw [HR.out]; unfold operandsP opOk; simp [hkv, hm]
      subst hR2
      clear hkv HR
      clear hm
      have cn3 : decide (0 < num) = true := decide_eq_true (by omega)
      have cn4 : decide ((0 : Int) < num) = true := decide_eq_true cn2
      clear cn
      go_wp2
      go_ret
      exact ⟨rfl, HB.out⟩
  by_cases h4 : k = 4
  · have hkv : (k : Int) = 4 := by omega
    have b18 : ((k : Int) == 18) = false := by simp; omega
    have b19 : ((k : Int) == 19) = false := by simp; omega
    have b20 : ((k : Int) == 20) = false := by simp; omega
    have b1 : ((k : Int) == 1) = false := by simp; omega
    have b23 : ((k : Int) == 23) = false := by simp; omega
    have b2 : ((k : Int) == 2) = false := by simp; omega
    have b12 : ((k : Int) == 12) = false := by simp; omega
    have b24 : ((k : Int) == 24) = false := by simp; omega
    have b3 : ((k : Int) == 3) = false := by simp; omega
    have b4 : ((k : Int) == 4) = true := by simp; omega
    have Hba : Hid _ := Hbel.out (by omega) (by omega)
    clear Hbel Hcb h18 h19 h20 h1 h23 h2 h12 h24 h3 h4
    by_cases ca : a < f.free
    · have hR2 : R = 0 := by rw [HR.out]; unfold operandsP opOk; simp [hkv, ca]
      subst hR2
      clear hkv HR
      have Hc0 : Hid _ := Hba.out (f.free : Int) w1
      rw [decide_eq_true ca] at Hc0
      go_wp2_with fail
      refine Calls.mono Hc0.out ?_
      rintro e9 w9 ⟨rfl, rfl⟩
      go_wp2
      go_ret
      exact ⟨rfl, HB.out⟩
    · have hR2 : R = 17 := by rw [HR.out]; unfold operandsP opOk; simp [hkv, ca]
      subst hR2
      clear hkv HR
      have Hc0 : Hid _ := Hba.out (f.free : Int) w1
      rw [decide_eq_false ca] at Hc0
      go_wp2_with fail
      refine Calls.mono Hc0.out ?_
      rintro e9 w9 ⟨rfl, rfl⟩
      go_wp2
      go_ret
      exact ⟨rfl, HB.out⟩
  by_cases h5 : k = 5
  · have hkv : (k : Int) = 5 := by omega
    have b18 : ((k : Int) == 18) = false := by simp; omega
    have b19 : ((k : Int) == 19) = false := by simp; omega
    have b20 : ((k : Int) == 20) = false := by simp; omega
    have b1 : ((k : Int) == 1) = false := by simp; omega
    have b23 : ((k : Int) == 23) = false := by simp; omega
    have b2 : ((k : Int) == 2) = false := by simp; omega
    have b12 : ((k : Int) == 12) = false := by simp; omega
    have b24 : ((k : Int) == 24) = false := by simp; omega
    have b3 : ((k : Int) == 3) = false := by simp; omega
    have b4 : ((k : Int) == 4) = false := by simp; omega
    have b5 : ((k : Int) == 5) = true := by simp; omega
    have Hba : Hid _ := Hbel.out (by omega) (by omega)
    clear Hbel Hcb h18 h19 h20 h1 h23 h2 h12 h24 h3 h4 h5
    by_cases ca : a < f.slots
    · have hR2 : R = 0 := by rw [HR.out]; unfold operandsP opOk; simp [hkv, ca]
      subst hR2
      clear hkv HR
      have Hc0 : Hid _ := Hba.out (f.slots : Int) w1
      rw [decide_eq_true ca] at Hc0
      go_wp2_with fail
      refine Calls.mono Hc0.out ?_
      rintro e9 w9 ⟨rfl, rfl⟩
      go_wp2
      go_ret
      exact ⟨rfl, HB.out⟩
    · have hR2 : R = 17 := by rw [HR.out]; unfold operandsP opOk; simp [hkv, ca]
      subst hR2
      clear hkv HR
      have Hc0 : Hid _ := Hba.out (f.slots : Int) w1
      rw [decide_eq_false ca] at Hc0
      go_wp2_with fail
      refine Calls.mono Hc0.out ?_
      rintro e9 w9 ⟨rfl, rfl⟩
      go_wp2
      go_ret
      exact ⟨rfl, HB.out⟩
  by_cases h6 : k = 6
  · have hkv : (k : Int) = 6 := by omega
    have b18 : ((k : Int) == 18) = false := by simp; omega
    have b19 : ((k : Int) == 19) = false := by simp; omega
    have b20 : ((k : Int) == 20) = false := by simp; omega
    have b1 : ((k : Int) == 1) = false := by simp; omega
    have b23 : ((k : Int) == 23) = false := by simp; omega
    have b2 : ((k : Int) == 2) = false := by simp; omega
    have b12 : ((k : Int) == 12) = false := by simp; omega
    have b24 : ((k : Int) == 24) = false := by simp; omega
    have b3 : ((k : Int) == 3) = false := by simp; omega
    have b4 : ((k : Int) == 4) = false := by simp; omega
    have b5 : ((k : Int) == 5) = false := by simp; omega
    have b6 : ((k : Int) == 6) = true := by simp; omega
    have Hba : Hid _ := Hbel.out (by omega) (by omega)
    clear Hbel Hcb h18 h19 h20 h1 h23 h2 h12 h24 h3 h4 h5 h6
    by_cases ca : a < f.slots
    · have hR2 : R = 0 := by rw [HR.out]; unfold operandsP opOk; simp [hkv, ca]
      subst hR2
      clear hkv HR
      have Hc0 : Hid _ := Hba.out (f.slots : Int) w1
      rw [decide_eq_true ca] at Hc0
      go_wp2_with fail
      refine Calls.mono Hc0.out ?_
      rintro e9 w9 ⟨rfl, rfl⟩
      go_wp2
      go_ret
      exact ⟨rfl, HB.out⟩
    · have hR2 : R = 17 := by rw [HR.out]; unfold operandsP opOk; simp [hkv, ca]
      subst hR2
      clear hkv HR
      have Hc0 : Hid _ := Hba.out (f.slots : Int) w1
      rw [decide_eq_false ca] at Hc0
      go_wp2_with fail
      refine Calls.mono Hc0.out ?_
      rintro e9 w9 ⟨rfl, rfl⟩
      go_wp2
      go_ret
      exact ⟨rfl, HB.out⟩
  by_cases h14 : k = 14
  · have hkv : (k : Int) = 14 := by omega
    have b18 : ((k : Int) == 18) = false := by simp; omega
    have b19 : ((k : Int) == 19) = false := by simp; omega
    have b20 : ((k : Int) == 20) = false := by simp; omega
    have b1 : ((k : Int) == 1) = false := by simp; omega
    have b23 : ((k : Int) == 23) = false := by simp; omega
    have b2 : ((k : Int) == 2) = false := by simp; omega
    have b12 : ((k : Int) == 12) = false := by simp; omega
    have b24 : ((k : Int) == 24) = false := by simp; omega
    have b3 : ((k : Int) == 3) = false := by simp; omega
    have b4 : ((k : Int) == 4) = false := by simp; omega
    have b5 : ((k : Int) == 5) = false := by simp; omega
    have b6 : ((k : Int) == 6) = false := by simp; omega
    have b14 : ((k : Int) == 14) = true := by simp; omega
    have Hba : Hid _ := Hbel.out (by omega) (by omega)
    clear Hbel Hcb h18 h19 h20 h1 h23 h2 h12 h24 h3 h4 h5 h6 h14
    by_cases ca : a < f.slots
    · have hR2 : R = 0 := by rw [HR.out]; unfold operandsP opOk; simp [hkv, ca]
      subst hR2
      clear hkv HR
      have Hc0 : Hid _ := Hba.out (f.slots : Int) w1
      rw [decide_eq_true ca] at Hc0
      go_wp2_with fail
      refine Calls.mono Hc0.out ?_
      rintro e9 w9 ⟨rfl, rfl⟩
      go_wp2
      go_ret
      exact ⟨rfl, HB.out⟩
    · have hR2 : R = 17 := by rw [HR.out]; unfold operandsP opOk; simp [hkv, ca]
      subst hR2
      clear hkv HR
      have Hc0 : Hid _ := Hba.out (f.slots : Int) w1
      rw [decide_eq_false ca] at Hc0
      go_wp2_with fail
      refine Calls.mono Hc0.out ?_
      rintro e9 w9 ⟨rfl, rfl⟩
      go_wp2
      go_ret
      exact ⟨rfl, HB.out⟩
  by_cases h7 : k = 7
  · have hkv : (k : Int) = 7 := by omega
    have b18 : ((k : Int) == 18) = false := by simp; omega
    have b19 : ((k : Int) == 19) = false := by simp; omega
    have b20 : ((k : Int) == 20) = false := by simp; omega
    have b1 : ((k : Int) == 1) = false := by simp; omega
    have b23 : ((k : Int) == 23) = false := by simp; omega
    have b2 : ((k : Int) == 2) = false := by simp; omega
    have b12 : ((k : Int) == 12) = false := by simp; omega
    have b24 : ((k : Int) == 24) = false := by simp; omega
    have b3 : ((k : Int) == 3) = false := by simp; omega
    have b4 : ((k : Int) == 4) = false := by simp; omega
    have b5 : ((k : Int) == 5) = false := by simp; omega
    have b6 : ((k : Int) == 6) = false := by simp; omega
    have b14 : ((k : Int) == 14) = false := by simp; omega
    have b7 : ((k : Int) == 7) = true := by simp; omega
    clear Hbel Hcb h18 h19 h20 h1 h23 h2 h12 h24 h3 h4 h5 h6 h14 h7
    by_cases ca : 0 < c
    · have hR2 : R = 0 := by rw [HR.out]; unfold operandsP opOk; simp [hkv, ca]
      subst hR2
      clear hkv HR
      have ct : decide (0 < c) = true := decide_eq_true ca
      go_wp2
      go_ret
      exact ⟨rfl, HB.out⟩
    · have hR2 : R = 17 := by rw [HR.out]; unfold operandsP opOk; simp [hkv, ca]
      subst hR2
      clear hkv HR
      have ct : decide (0 < c) = false := decide_eq_false ca
      go_wp2
      go_ret
      exact ⟨rfl, HB.out⟩
  by_cases h13 : k = 13
  · have hkv : (k : Int) = 13 := by omega
    have b18 : ((k : Int) == 18) = false := by simp; omega
    have b19 : ((k : Int) == 19) = false := by simp; omega
    have b20 : ((k : Int) == 20) = false := by simp; omega
    have b1 : ((k : Int) == 1) = false := by simp; omega
    have b23 : ((k : Int) == 23) = false := by simp; omega
    have b2 : ((k : Int) == 2) = false := by simp; omega
    have b12 : ((k : Int) == 12) = false := by simp; omega
    have b24 : ((k : Int) == 24) = false := by simp; omega
    have b3 : ((k : Int) == 3) = false := by simp; omega
    have b4 : ((k : Int) == 4) = false := by simp; omega
    have b5 : ((k : Int) == 5) = false := by simp; omega
    have b6 : ((k : Int) == 6) = false := by simp; omega
    have b14 : ((k : Int) == 14) = false := by simp; omega
    have b7 : ((k : Int) == 7) = false := by simp; omega
    have b13 : ((k : Int) == 13) = true := by simp; omega
    clear Hbel Hcb h18 h19 h20 h1 h23 h2 h12 h24 h3 h4 h5 h6 h14 h7 h13
    by_cases ca : 0 < a
    · by_cases cc : a < fs.length
      · have hR2 : R = 0 := by rw [HR.out]; unfold operandsP opOk; simp [hkv, ca, cc]
        subst hR2
        clear hkv HR
        go_wp2
        go_ret
        exact ⟨rfl, HB.out⟩
      · have hR2 : R = 17 := by rw [HR.out]; unfold operandsP opOk; simp [hkv, ca, cc]
        subst hR2
        clear hkv HR
        go_wp2
        go_ret
        exact ⟨rfl, HB.out⟩
    · have hR2 : R = 17 := by rw [HR.out]; unfold operandsP opOk; simp [hkv, ca]
      subst hR2
      clear hkv HR
      go_wp2
      go_ret
      exact ⟨rfl, HB.out⟩
  have b18 : ((k : Int) == 18) = false := by simp; omega
  have b19 : ((k : Int) == 19) = false := by simp; omega
  have b20 : ((k : Int) == 20) = false := by simp; omega
  have b1 : ((k : Int) == 1) = false := by simp; omega
  have b23 : ((k : Int) == 23) = false := by simp; omega
  have b2 : ((k : Int) == 2) = false := by simp; omega
  have b12 : ((k : Int) == 12) = false := by simp; omega
  have b24 : ((k : Int) == 24) = false := by simp; omega
  have b3 : ((k : Int) == 3) = false := by simp; omega
  have b4 : ((k : Int) == 4) = false := by simp; omega
  have b5 : ((k : Int) == 5) = false := by simp; omega
  have b6 : ((k : Int) == 6) = false := by simp; omega
  have b14 : ((k : Int) == 14) = false := by simp; omega
  have b7 : ((k : Int) == 7) = false := by simp; omega
  have b13 : ((k : Int) == 13) = false := by simp; omega
  have hR2 : R = 0 := by
    rw [HR.out]
    unfold operandsP opOk
    simp [show ¬ (k : Int) = 18 by omega, show ¬ (k : Int) = 19 by omega, show ¬ (k : Int) = 20 by omega, show ¬ (k : Int) = 1 by omega, show ¬ (k : Int) = 23 by omega, show ¬ (k : Int) = 2 by omega, show ¬ (k : Int) = 12 by omega, show ¬ (k : Int) = 24 by omega, show ¬ (k : Int) = 3 by omega, show ¬ (k : Int) = 4 by omega, show ¬ (k : Int) = 5 by omega, show ¬ (k : Int) = 6 by omega, show ¬ (k : Int) = 14 by omega, show ¬ (k : Int) = 7 by omega, show ¬ (k : Int) = 13 by omega]
  subst hR2
  have Hb26 : Hid _ := below_any (k : Int) 26 w1
  rw [decide_eq_true (by omega : (0 : Int) ≤ k), decide_eq_true (by omega : (k : Int) < 26)] at Hb26
  clear Hbel Hcb HR h18 h19 h20 h1 h23 h2 h12 h24 h3 h4 h5 h6 h14 h7 h13
  go_wp2_with fail
  refine Calls.mono Hb26.out ?_
  rintro e9 w9 ⟨rfl, rfl⟩
  go_wp2
  go_ret
  exact ⟨rfl, HB.out⟩
end
end Go.Proofs.YtlekoldicnfeeaaDoor
