/-
  The program's Encode whole.
-/
import Derived.Test.YtimdjcffmajmnaaDoorE8
namespace Go.Proofs.YtimdjcffmajmnaaDoor
open Go.RowKit Go.Deep
def EncOk (n : Nat) : Prop := ∀ (c : Cd) (p : Option Addr) (cap : Nat) (p' : Option Addr) (cap' : Nat) (w : World), ShIn w → WdIn w → TextsIn w p c.texts → FunsIn w p' c.funs → Calls Tryd.prog n #[.agg #[.slice p c.texts.length cap, .slice p' c.funs.length cap']] w fun e w' => e = .returned (.tuple #[.string { data := c.enc.1.toArray }, .int .i64 c.enc.2]) ∧ Below w.heap.size w w'
theorem make42 (n : Nat) (hn : n ≤ 4000000) (w : World) : (Instr.makeSlice 42 (.int .i64 0) (.int .i64 (n : Int))).run Tryd.prog w = .ok (.slice (some ⟨w.heap.size, 0, none⟩) 0 n) (w.alloc (.cells (madeCells #[.int .u8 0] n) 5)) := by
  obtain ⟨i, h1, h2, h3, h4⟩ := info_parts infos5
  have hr := run_make (P := Tryd.prog) w 42 5 i _ Tryd.underlying42 h1 h2 .i64 .i64 0 (n : Int) (by omega) (by omega) (by rw [h4]; omega) (by omega)
  rw [h3] at hr
  have e : ((n : Int)).toNat * 1 = n := by omega
  rw [e] at hr
  exact hr
theorem made_size (z : Value) (n : Nat) : (madeCells #[z] n).size = n * 1 := by
  unfold madeCells
  simp
section
set_option maxHeartbeats 8000000
set_option maxRecDepth 100000
theorem encOk7 : EncOk 7 := by
  intro c p cap p' cap' w hS hW hT hF
  obtain ⟨ts, fs⟩ := c
  have hk1 : Below w.heap.size w (w.alloc (Obj.cells #[Value.slice p ts.length cap, Value.slice p' fs.length cap'] 25)) := (Below.refl _ _).alloc (Nat.le_refl _) _
  have hx0 : CBox (w.alloc (Obj.cells #[Value.slice p ts.length cap, Value.slice p' fs.length cap'] 25)) w.heap.size p ts.length cap p' fs.length cap' := (MapKept.heap_alloc w _).1
  have Hk1 : Hid _ := hk1
  have Hx0 : Hid _ := hx0
  have HS : Hid _ := hS.below hk1
  have HW : Hid _ := hW.below hk1
  have HT : Hid _ := hT.below hk1
  have HF : Hid _ := hF.below hk1
  obtain ⟨R, hR⟩ : ∃ R, R = Cd.enc ⟨ts, fs⟩ := ⟨_, rfl⟩
  rw [← hR]
  unfold Cd.enc at hR
  have HR : Hid _ := hR
  clear hk1 hx0 hS hW hT hF hR
  show Calls Tryd.prog 7 #[.agg #[.slice p ts.length cap, .slice p' fs.length cap']] w _
  go_enter Tryd.func7, Tryd.ntmps7
  go_upto_region 1 with fail
  generalize w.alloc (Obj.cells #[Value.slice p ts.length cap, Value.slice p' fs.length cap'] 25) = w0 at *
  obtain ⟨x0, x1, x2⟩ := CBox.cells Hx0.out
  have Hc : Hid _ := fits_any ts fs p cap p' cap' w0 HS.out HT.out HF.out
  go_wp2_with fail
  refine Calls.mono Hc.out ?_
  rintro e1 w1 ⟨rfl, hb1⟩
  have Hb1 : Hid _ := hb1
  clear x0 x1 x2 Hc hb1
  obtain ⟨x0, x1, x2⟩ := (CBox.below Hx0.out Hb1.out).cells
  cases hok : Cd.ok ⟨ts, fs⟩
  · have hR : R = ([], 17) := by rw [HR.out, hok]; rfl
    subst hR
    clear hok HR
    go_wp2
    exact bodyPost_ret (v := .tuple #[.string { data := #[] }, .int .i64 17]) (by simp [results, Tryd.results7, go_sem]) rfl ⟨rfl, Below.trans Hk1.out (Hb1.out.mono (Below.size Hk1.out))⟩
  have Hc : Hid _ := length_any ts fs p cap p' cap' w1 (ShIn.below HS.out Hb1.out) (WdIn.below HW.out Hb1.out) (TextsIn.below HT.out Hb1.out) (FunsIn.below HF.out Hb1.out) hok
  have Hok : Hid _ := hok
  rw [hok, if_pos rfl] at HR
  clear hok
  go_wp2_with fail
  refine Calls.mono Hc.out ?_
  rintro e1 w2 ⟨rfl, hb2⟩
  have Hb2 : Hid (Below w0.heap.size w0 w2) := Below.then Hb1.out hb2 (Nat.le_refl _)
  clear x0 x1 x2 Hc hb2 Hb1
  obtain ⟨x0, x1, x2⟩ := (CBox.below Hx0.out Hb2.out).cells
  obtain ⟨N, hN⟩ : ∃ N, N = (Cd.bytes ⟨ts, fs⟩).length := ⟨_, rfl⟩
  rw [← hN] at HR ⊢
  have HN : Hid _ := hN
  clear hN
  by_cases h4 : N > 4000000
  · have hR : R = ([], 1) := by rw [HR.out, if_pos h4]
    subst hR
    have h4' : (4000000 : Int) < N := by omega
    clear HR
    go_wp2
    exact bodyPost_ret (v := .tuple #[.string { data := #[] }, .int .i64 1]) (by simp [results, Tryd.results7, go_sem]) rfl ⟨rfl, Below.trans Hk1.out (Hb2.out.mono (Below.size Hk1.out))⟩
  have hR : R = (Cd.bytes ⟨ts, fs⟩, 0) := by rw [HR.out, if_neg h4]
  subst hR
  have h4' : ¬ (4000000 : Int) < N := by omega
  have hmk := make42 N (by omega) w2
  have hWr : Wr w2.heap.size (w2.heap.size + 1) ((w2.alloc (.cells (madeCells #[.int .u8 0] N) 5)).alloc (.cells #[.slice (some ⟨w2.heap.size, 0, none⟩) 0 N] 44)) [] := by
    have h1 : Wr w2.heap.size (w2.heap.size + 1) ((w2.alloc (.cells (madeCells #[.int .u8 0] N) 5)).alloc (.cells #[.slice (some ⟨w2.heap.size, 0, none⟩) 0 N] 44)) [] := by
      refine ⟨⟨.slice (some ⟨w2.heap.size, 0, none⟩) 0 N, ?_, ?_⟩, by simp; omega⟩
      · have := (MapKept.heap_alloc (w2.alloc (.cells (madeCells #[.int .u8 0] N) 5)) (.cells #[.slice (some ⟨w2.heap.size, 0, none⟩) 0 N] 44)).1
        simpa using this
      · refine own_of_block (w := w2.alloc (.cells (madeCells #[.int .u8 0] N) 5)) (World.ownsRow_made w2 _ N (Nat.le_refl _) (by unfold maxLen; omega) (made_size _ _)) ?_
        intro g cs hg hc
        exact Below.heap_alloc _ _ _ (Array.getElem?_eq_some_iff.1 hc).1
    exact h1
  have hbe : Below w2.heap.size w2 ((w2.alloc (.cells (madeCells #[.int .u8 0] N) 5)).alloc (.cells #[.slice (some ⟨w2.heap.size, 0, none⟩) 0 N] 44)) := ((Below.refl _ _).alloc (Nat.le_refl _) _).alloc (by simp) _
  have hsz : w2.heap.size + 1 < ((w2.alloc (.cells (madeCells #[.int .u8 0] N) 5)).alloc (.cells #[.slice (some ⟨w2.heap.size, 0, none⟩) 0 N] 44)).heap.size := by simp
  have Hc : Hid _ := wcode_any w2 (w2.heap.size + 1) _ ts fs p cap p' cap' Hok.out (ShIn.below HS.out Hb2.out) (TextsIn.below HT.out Hb2.out) (FunsIn.below HF.out Hb2.out) hbe hWr (by omega) hsz (by rw [← HN.out]; omega)
  have Hbe : Hid _ := hbe
  clear HR hWr hbe hsz
  go_upto_region 7 with fail
  clear hmk x0 x1 x2
  generalize (w2.alloc (Obj.cells (madeCells #[Value.int IntKind.u8 0] N) 5)).alloc (Obj.cells #[Value.slice (some { block := w2.heap.size, off := 0 }) 0 N] 44) = w3 at *
  obtain ⟨x0, x1, x2⟩ := (CBox.below (CBox.below Hx0.out Hb2.out) Hbe.out).cells
  go_wp2_with fail
  refine Calls.mono Hc.out ?_
  rintro e1 w4 ⟨rfl, ⟨⟨v, h1, h2⟩, _⟩, f4⟩
  have Hb4 : Hid (Below w.heap.size w w4) := Below.trans Hk1.out ((Below.trans Hb2.out ((FW.onto f4 Hbe.out).mono (Below.size Hb2.out))).mono (Below.size Hk1.out))
  have c0 : w4.cell? ⟨w2.heap.size + 1, 0, none⟩ = some v := by simp [World.cell?, h1]
  have hcv := owned_str h2
  clear h1 h2 f4 x0 x1 x2 Hc
  go_wp2
  exact bodyPost_ret (v := .tuple #[.string { data := (Cd.bytes ⟨ts, fs⟩).toArray }, .int .i64 0]) (by simp [results, Tryd.results7, go_sem]) rfl ⟨rfl, Hb4.out⟩
end
end Go.Proofs.YtimdjcffmajmnaaDoor
