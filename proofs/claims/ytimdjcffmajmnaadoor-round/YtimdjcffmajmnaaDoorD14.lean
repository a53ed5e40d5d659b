/-
  The program's Decode whole.
-/
import Derived.Test.YtimdjcffmajmnaaDoorD13
import Derived.Test.YtimdjcffmajmnaaDoorD1
import Derived.Test.YtimdjcffmajmnaaDoorC14
namespace Go.Proofs.YtimdjcffmajmnaaDoor
open Go.RowKit Go.Deep
theorem TextsIn.none (w : World) : TextsIn w none [] := ⟨by simp, fun i hi => by cases hi⟩
theorem FunsIn.none (w : World) : FunsIn w none [] := ⟨by simp, fun i hi => by cases hi⟩
/-- The three boxes of Decode. -/
structure DB (w u : World) (p : Option Addr) (n cap : Nat) (p' : Option Addr) (n' cap' : Nat) (k a : Int) : Prop where
  cb : CBox u w.heap.size p n cap p' n' cap'
  eb : EBox u (w.heap.size + 1) k a
  kp : Below w.heap.size w u
section
variable {w u : World} {p : Option Addr} {n cap : Nat} {p' : Option Addr} {n' cap' : Nat} {k a : Int}
theorem DB.call (h : DB w u p n cap p' n' cap' k a) {X : List Nat} {u' : World} (hk : Kp X u u') (hX : ∀ x ∈ X, w.heap.size + 2 ≤ x) : DB w u' p n cap p' n' cap' k a :=
  ⟨h.cb.kpx hk (fun hx => by have := hX _ hx; omega), h.eb.kp hk (fun hx => by have := hX _ hx; omega), h.kp.trans (hk.below h.kp.size (fun x hx => by have := hX x hx; omega))⟩
theorem DB.all (h : DB w u p n cap p' n' cap' k a) (q : Option Addr) (m c : Nat) (q' : Option Addr) (m' c' : Nat) (k' a' : Int) : DB w ((((u.setCell ⟨w.heap.size, 0, none⟩ (.slice q m c)).setCell ⟨w.heap.size, 1, none⟩ (.slice q' m' c')).setCell ⟨w.heap.size + 1, 0, none⟩ (.int .i64 k')).setCell ⟨w.heap.size + 1, 1, none⟩ (.int .i64 a')) q m c q' m' c' k' a' ∧ Kp [w.heap.size, w.heap.size + 1] u ((((u.setCell ⟨w.heap.size, 0, none⟩ (.slice q m c)).setCell ⟨w.heap.size, 1, none⟩ (.slice q' m' c')).setCell ⟨w.heap.size + 1, 0, none⟩ (.int .i64 k')).setCell ⟨w.heap.size + 1, 1, none⟩ (.int .i64 a')) := by
  have k1 : Kp [w.heap.size] u ((u.setCell ⟨w.heap.size, 0, none⟩ (.slice q m c)).setCell ⟨w.heap.size, 1, none⟩ (.slice q' m' c')) := (Kp.setCell u ⟨w.heap.size, 0, none⟩ (by simp) _).trans (Kp.setCell _ ⟨w.heap.size, 1, none⟩ (by simp) _)
  have c1 := (h.cb.put0 q m c).put1 q' m' c'
  have e1 := h.eb.kp k1 (by simp)
  have e2 := e1.set2 k' a'
  have k2 : Kp [w.heap.size + 1] ((u.setCell ⟨w.heap.size, 0, none⟩ (.slice q m c)).setCell ⟨w.heap.size, 1, none⟩ (.slice q' m' c')) ((((u.setCell ⟨w.heap.size, 0, none⟩ (.slice q m c)).setCell ⟨w.heap.size, 1, none⟩ (.slice q' m' c')).setCell ⟨w.heap.size + 1, 0, none⟩ (.int .i64 k')).setCell ⟨w.heap.size + 1, 1, none⟩ (.int .i64 a')) := (Kp.setCell _ ⟨w.heap.size + 1, 0, none⟩ (by simp) _).trans (Kp.setCell _ ⟨w.heap.size + 1, 1, none⟩ (by simp) _)
  have k3 := (Kp.mono k1 (Y := [w.heap.size, w.heap.size + 1]) (by simp)).trans (Kp.mono k2 (by simp))
  exact ⟨⟨c1.kpx k2 (by simp), e2, h.kp.trans (k3.below h.kp.size (by simp))⟩, k3⟩
end
def DecOk (n : Nat) : Prop := ∀ (S : ByteArray) (w : World), ShIn w → EtIn w → Calls Tryd.prog n #[.string S] w fun e w' => DecPost w S e w'
section
set_option maxHeartbeats 8000000
set_option maxRecDepth 100000
theorem decOk10 : DecOk 10 := by
  intro S w hSh hEt
  obtain ⟨w0, hw0⟩ : ∃ w0, w0 = ((w.alloc (.cells #[.slice none 0 0, .slice none 0 0] 25)).alloc (.cells #[.int .i64 0, .int .i64 0] 34)).alloc (.cells #[.string S, .int .i64 0] 57) := ⟨_, rfl⟩
  have hk0 : Kp [] w w0 := by rw [hw0]; exact ((Kp.alloc _ _ _).trans (Kp.alloc _ _ _)).trans (Kp.alloc _ _ _)
  have hs0 : w0.heap.size = w.heap.size + 3 := by rw [hw0]; simp
  have hP0 : PBox w0 (w.heap.size + 2) S 0 := by
    have := (MapKept.heap_alloc ((w.alloc (.cells #[.slice none 0 0, .slice none 0 0] 25)).alloc (.cells #[.int .i64 0, .int .i64 0] 34)) (.cells #[.string S, .int .i64 0] 57)).1
    rw [← hw0] at this
    show w0.heap[w.heap.size + 1 + 1]? = _
    simpa using this
  have hD0 : DB w w0 none 0 0 none 0 0 0 0 := by
    refine ⟨?_, ?_, hk0.below (Nat.le_refl _) (by simp)⟩
    · have h1 : CBox (w.alloc (.cells #[.slice none 0 0, .slice none 0 0] 25)) w.heap.size none 0 0 none 0 0 := (MapKept.heap_alloc w _).1
      rw [hw0]
      exact h1.kpx ((Kp.alloc [] _ _).trans (Kp.alloc [] _ _)) (by simp)
    · have h1 := (MapKept.heap_alloc (w.alloc (.cells #[.slice none 0 0, .slice none 0 0] 25)) (.cells #[.int .i64 0, .int .i64 0] 34)).1
      have h2 : EBox ((w.alloc (.cells #[.slice none 0 0, .slice none 0 0] 25)).alloc (.cells #[.int .i64 0, .int .i64 0] 34)) (w.heap.size + 1) 0 0 := by
        unfold EBox
        simpa using h1
      rw [hw0]
      exact h2.kp (Kp.alloc [] _ _) (by simp)
  have hlt := hEt.lt
  have Hc : Hid _ := code_read w0 (w.heap.size + 2) S hP0 (hSh.of_block (hk0.block 1 hSh.lt (by simp))) (by omega)
  have HE0 : Hid (EtIn w0) := hEt.kp hk0 (by simp)
  have HD0 : Hid (DB w w0 none 0 0 none 0 0 0 0) := hD0
  have Hw0 : Hid _ := hw0
  obtain ⟨R, hR⟩ : ∃ R, R = decR S := ⟨_, rfl⟩
  have HR : Hid (R = decR S) := hR
  rw [← hR] at Hc
  clear hk0 hP0 hD0 hSh hEt hw0 hR
  go_enter Tryd.func10, Tryd.ntmps10
  go_upto_region 2 with fail
  rw [← Hw0.out]
  clear Hw0
  go_wp2_with fail
  refine Calls.mono Hc.out ?_
  rintro e1 w1 ⟨p, n, cap, p', n', cap', rfl, hr, hz, k1⟩
  have hD1 : DB w w1 none 0 0 none 0 0 0 0 := HD0.out.call k1 (by simp)
  have hE1 : EtIn w1 := HE0.out.kp k1 (by simp only [List.mem_singleton]; omega)
  obtain ⟨w3, hw3⟩ : ∃ w3, w3 = (w1.alloc (.cells #[.slice p n cap, .slice p' n' cap'] 25)).alloc (.cells #[.int .i64 0, .int .i64 0] 63) := ⟨_, rfl⟩
  have hk3 : Kp [] w1 w3 := by rw [hw3]; exact (Kp.alloc _ _ _).trans (Kp.alloc _ _ _)
  have hD3 : DB w w3 none 0 0 none 0 0 0 0 := hD1.call hk3 (by simp)
  have hC3 : CBox w3 w1.heap.size p n cap p' n' cap' := by
    have h1 : CBox (w1.alloc (.cells #[.slice p n cap, .slice p' n' cap'] 25)) w1.heap.size p n cap p' n' cap' := (MapKept.heap_alloc w1 _).1
    rw [hw3]
    exact h1.kpx (Kp.alloc [] _ _) (by simp)
  have hT3 : TBox w3 (w1.heap.size + 1) 0 0 := by
    have := (MapKept.heap_alloc (w1.alloc (.cells #[.slice p n cap, .slice p' n' cap'] 25)) (.cells #[.int .i64 0, .int .i64 0] 63)).1
    rw [← hw3] at this
    unfold TBox
    simpa using this
  have hsz1 : w.heap.size + 3 ≤ w1.heap.size := by have := k1.size; omega
  have HD3 : Hid (DB w w3 none 0 0 none 0 0 0 0) := hD3
  have HC3 : Hid (CBox w3 w1.heap.size p n cap p' n' cap') := hC3
  have HT3 : Hid (TBox w3 (w1.heap.size + 1) 0 0) := hT3
  have HE3 : Hid (EtIn w3) := hE1.kp hk3 (by simp)
  have Hr : Hid _ := hr
  have Hz : Hid _ := hz
  have HK3 : Hid (Kp [] w1 w3) := hk3
  have Hw3 : Hid _ := hw3
  clear hr hz k1 hD1 hE1 hk3 hD3 hC3 hT3 hw3 Hc HE0 HD0
  go_upto_region 4 with fail
  rw [← Hw3.out]
  clear Hw3
  obtain ⟨x0, x1, xl⟩ := CBox.cells HC3.out
  by_cases hk : R.2.1 = 0
  · obtain ⟨rfl, rfl, hfat, hin⟩ := Hr.out hk
    rw [evR_nil hk]
    have Ha : Hid _ := as_nil (.iface 65 (.pointer (some ⟨w1.heap.size + 1, 0, none⟩))) w3
    have Hin : Hid _ := hin
    have Hkf : Hid (R.2.1 = 0 ∧ R.2.2 = 0) := ⟨hk, hfat⟩
    clear hk hfat hin Hr Hz
    go_wp2_with fail
    refine Calls.mono Ha.out ?_
    rintro e4 w4 ⟨rfl, rfl⟩
    clear Ha
    obtain ⟨c0, c1, cl⟩ := HD3.out.cb.cells
    have cf0 := HD3.out.cb.fz 0
    have cf1 := HD3.out.cb.fz 1
    obtain ⟨d0, d1, df⟩ := EBox.cells HD3.out.eb
    have df0 := df 0
    have df1 := df 1
    have dl := EBox.lt HD3.out.eb
    clear df
    have hfin := HD3.out.all p R.1.texts.length cap p' R.1.funs.length cap' 0 0
    obtain ⟨z0, z1, _⟩ := hfin.1.cb.cells
    obtain ⟨y0, y1, _⟩ := EBox.cells hfin.1.eb
    have Hfin : Hid _ := hfin
    clear hfin
    go_wp2
    refine bodyPost_ret (v := .tuple #[.agg #[.slice p R.1.texts.length cap, .slice p' R.1.funs.length cap'], .agg #[.int .i64 0, .int .i64 0]]) (by simp [results, Tryd.results10, go_sem, z0, z1, y0, y1]) rfl ?_
    have hin2 := Hin.out _ _ (Kp.trans (Kp.mono HK3.out (by simp)) Hfin.out.2) (by intro y hy; simp only [List.mem_cons, List.not_mem_nil, or_false] at hy; omega)
    refine ⟨p, cap, p', cap', ?_, ?_, ?_, Hfin.out.1.kp⟩
    · rw [← HR.out, Hkf.out.1, Hkf.out.2]
    · rw [← HR.out]; exact hin2.1
    · rw [← HR.out]; exact hin2.2
  · have hz2 := Hz.out hk
    have Ha : Hid _ := as_hit R.2.1 R.2.2 0 0 (w1.heap.size + 1) w3 HE3.out HT3.out
    rw [evR_err hk]
    have Hz2 : Hid (R.1 = ⟨[], []⟩) := hz2
    clear hk hz2 Hr Hz
    go_wp2_with fail
    refine Calls.mono Ha.out ?_
    rintro e4 w4 ⟨rfl, t4, k4⟩
    have HD4 : Hid (DB w w4 none 0 0 none 0 0 0 0) := HD3.out.call k4 (by simp; omega)
    have tc0 : w4.cell? ⟨w1.heap.size + 1, 0, none⟩ = some (.int .i64 R.2.1) := by unfold TBox at t4; simp [World.cell?, t4]
    have tc1 : w4.cell? ⟨w1.heap.size + 1, 1, none⟩ = some (.int .i64 R.2.2) := by unfold TBox at t4; simp [World.cell?, t4]
    have tl := t4.lt
    clear Ha t4 k4 x0 x1 xl
    obtain ⟨c0, c1, cl⟩ := HD4.out.cb.cells
    have cf0 := HD4.out.cb.fz 0
    have cf1 := HD4.out.cb.fz 1
    obtain ⟨d0, d1, df⟩ := EBox.cells HD4.out.eb
    have df0 := df 0
    have df1 := df 1
    have dl := EBox.lt HD4.out.eb
    clear df
    have hfin := HD4.out.all none 0 0 none 0 0 R.2.1 R.2.2
    obtain ⟨z0, z1, _⟩ := hfin.1.cb.cells
    obtain ⟨y0, y1, _⟩ := EBox.cells hfin.1.eb
    have Hfin : Hid _ := hfin
    clear hfin
    go_upto_region 5 with fail
    go_region
    all_goals go_wp2
    all_goals refine bodyPost_ret (v := .tuple #[.agg #[.slice none 0 0, .slice none 0 0], .agg #[.int .i64 R.2.1, .int .i64 R.2.2]]) (by simp [results, Tryd.results10, go_sem, z0, z1, y0, y1]) rfl ?_
    all_goals refine ⟨none, 0, none, 0, ?_, ?_, ?_, Hfin.out.1.kp.drew⟩
    all_goals rw [← HR.out, Hz2.out]
    · rfl
    · exact TextsIn.none _
    · exact FunsIn.none _
end
end Go.Proofs.YtimdjcffmajmnaaDoor
