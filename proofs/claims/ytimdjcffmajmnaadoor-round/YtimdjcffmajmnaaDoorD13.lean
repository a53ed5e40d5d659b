/-
  The program's reader of bytes: a code (code).
-/
import Derived.Test.YtimdjcffmajmnaaDoorD12
namespace Go.Proofs.YtimdjcffmajmnaaDoor
open Go.RowKit Go.Deep
theorem num_bad {S : ByteArray} {n : Nat} {r : Rs} (h : ¬ r.kind = 0) : Rs.num S n r = (0, r) := by unfold Rs.num; rw [if_neg h]
section
variable {S : ByteArray}
theorem dec_h (hS : ¬ 4000000 < S.size) (h : ¬ (headR S 3 0 ⟨0, 0, 0⟩).kind = 0) : decR S = (⟨[], []⟩, (headR S 3 0 ⟨0, 0, 0⟩).kind, (headR S 3 0 ⟨0, 0, 0⟩).fat) := by
  unfold decR
  rw [if_neg hS]
  generalize headR S 3 0 ⟨0, 0, 0⟩ = r at *
  have e1 := num_bad (S := S) (n := 2) (r := ⟨3, r.kind, r.fat⟩) h
  unfold decHead decTexts
  rw [e1]
  show decFuns S [] (Rs.num S 2 ⟨3, r.kind, r.fat⟩) = _
  rw [e1]
  unfold decFuns
  show decAns ⟨[], []⟩ (decEnd S ⟨3, r.kind, r.fat⟩) = _
  unfold decEnd
  rw [if_neg (fun hh => h hh.1)]
  unfold decAns
  rw [if_neg h]
theorem dec_two (hS : ¬ 4000000 < S.size) (h : (headR S 3 0 ⟨0, 0, 0⟩).kind = 0) (hf : (headR S 3 0 ⟨0, 0, 0⟩).fat = 0) : decR S = decFuns S (textsL S 3).1 ((textsL S 3).2.num S 2) := by
  unfold decR
  rw [if_neg hS]
  unfold decHead
  rw [h, hf]
  rfl
theorem dec_t (hS : ¬ 4000000 < S.size) (h : (headR S 3 0 ⟨0, 0, 0⟩).kind = 0) (hf : (headR S 3 0 ⟨0, 0, 0⟩).fat = 0) (h2 : ¬ (textsL S 3).2.kind = 0) : decR S = (⟨[], []⟩, (textsL S 3).2.kind, (textsL S 3).2.fat) := by
  rw [dec_two hS h hf, num_bad h2]
  unfold decFuns
  show decAns ⟨_, []⟩ (decEnd S (textsL S 3).2) = _
  unfold decEnd
  rw [if_neg (fun hh => h2 hh.1)]
  unfold decAns
  rw [if_neg h2]
theorem dec_three {P : Nat} (hS : ¬ 4000000 < S.size) (h : (headR S 3 0 ⟨0, 0, 0⟩).kind = 0) (hf : (headR S 3 0 ⟨0, 0, 0⟩).fat = 0) (h2 : (textsL S 3).2 = ⟨P, 0, 0⟩) : decR S = decAns ⟨(textsL S 3).1, (funsL S P).1⟩ (decEnd S (funsL S P).2) := by
  rw [dec_two hS h hf, h2]
  rfl
theorem dec_f {P : Nat} (hS : ¬ 4000000 < S.size) (h : (headR S 3 0 ⟨0, 0, 0⟩).kind = 0) (hf : (headR S 3 0 ⟨0, 0, 0⟩).fat = 0) (h2 : (textsL S 3).2 = ⟨P, 0, 0⟩) (h3 : ¬ (funsL S P).2.kind = 0) : decR S = (⟨[], []⟩, (funsL S P).2.kind, (funsL S P).2.fat) := by
  rw [dec_three hS h hf h2]
  unfold decEnd
  rw [if_neg (fun hh => h3 hh.1)]
  unfold decAns
  rw [if_neg h3]
theorem dec_e {P P2 : Nat} (hS : ¬ 4000000 < S.size) (h : (headR S 3 0 ⟨0, 0, 0⟩).kind = 0) (hf : (headR S 3 0 ⟨0, 0, 0⟩).fat = 0) (h2 : (textsL S 3).2 = ⟨P, 0, 0⟩) (h3 : (funsL S P).2 = ⟨P2, 0, 0⟩) (h4 : P2 < S.size) : decR S = ((⟨[], []⟩, 16, (P2 : Int)) : Cd × Int × Int) := by
  rw [dec_three hS h hf h2, h3]
  unfold decEnd
  rw [if_pos ⟨rfl, h4⟩]
  rfl
theorem dec_ok {P P2 : Nat} (hS : ¬ 4000000 < S.size) (h : (headR S 3 0 ⟨0, 0, 0⟩).kind = 0) (hf : (headR S 3 0 ⟨0, 0, 0⟩).fat = 0) (h2 : (textsL S 3).2 = ⟨P, 0, 0⟩) (h3 : (funsL S P).2 = ⟨P2, 0, 0⟩) (h4 : ¬ P2 < S.size) : decR S = (⟨(textsL S 3).1, (funsL S P).1⟩, 0, 0) := by
  rw [dec_three hS h hf h2, h3]
  unfold decEnd
  rw [if_neg (fun hh => h4 hh.2)]
  rfl
end
theorem TextsIn.kpx {X : List Nat} {w w' : World} {p : Option Addr} {ts : List ByteArray} (h : TextsIn w p ts) (hk : Kp X w w') (hX : ∀ b, p = some b → b.block ∉ X) : TextsIn w' p ts :=
  ⟨h.len, fun i hi => by
    obtain ⟨b, o, h1, h2, h3⟩ := h.get i hi
    exact ⟨b, o, h1, Nat.lt_of_lt_of_le h2 hk.size, hk.cell h3 (show b ∉ X from hX ⟨b, o, none⟩ h1)⟩⟩
section
variable {w w' : World} {b : Nat} {p : Option Addr} {n cap : Nat} {p' : Option Addr} {n' cap' : Nat}
theorem CBox.kpx {X : List Nat} (h : CBox w b p n cap p' n' cap') (hk : Kp X w w') (hx : b ∉ X) : CBox w' b p n cap p' n' cap' := (hk.block b (Array.getElem?_eq_some_iff.1 h).1 hx).trans h
theorem CBox.fz (h : CBox w b p n cap p' n' cap') (j : Nat) : w.frozen? ⟨b, j, none⟩ = false := by
  unfold CBox at h
  simp [World.frozen?, h]
theorem CBox.put0 (h : CBox w b p n cap p' n' cap') (q : Option Addr) (m c : Nat) : CBox (w.setCell ⟨b, 0, none⟩ (.slice q m c)) b q m c p' n' cap' := by
  unfold CBox at *
  simp [World.setCell, Array.getElem?_modify, h]
theorem CBox.put1 (h : CBox w b p n cap p' n' cap') (q : Option Addr) (m c : Nat) : CBox (w.setCell ⟨b, 1, none⟩ (.slice q m c)) b p n cap q m c := by
  unfold CBox at *
  simp [World.setCell, Array.getElem?_modify, h]
end
/-- What the walk of code has in memory. -/
structure CW (w : World) (rp : Nat) (xp : Nat) (p : Option Addr) (n cap : Nat) (p' : Option Addr) (n' cap' : Nat) (u : World) : Prop where
  xb : CBox u xp p n cap p' n' cap'
  kp : Kp [rp] w u
  xr : xp ≠ rp
  fr : w.heap.size ≤ xp
section
variable {w : World} {rp : Nat} {xp : Nat} {p : Option Addr} {n cap : Nat} {p' : Option Addr} {n' cap' : Nat} {u : World}
theorem CW.call (h : CW w rp xp p n cap p' n' cap' u) {u' : World} (hk : Kp [rp] u u') : CW w rp xp p n cap p' n' cap' u' := ⟨h.xb.kpx hk (by simpa using h.xr), h.kp.trans hk, h.xr, h.fr⟩
theorem CW.put (h : CW w rp xp p n cap p' n' cap' u) {u' : World} {q : Option Addr} {m c : Nat} {q' : Option Addr} {m' c' : Nat} (hx : CBox u' xp q m c q' m' c') (hk : Kp [xp] u u') : CW w rp xp q m c q' m' c' u' := ⟨hx, h.kp.then hk (by intro y hy; right; simp only [List.mem_singleton] at hy; rw [hy]; exact h.fr), h.xr, h.fr⟩
theorem CW.p0 (h : CW w rp xp p n cap p' n' cap' u) (q : Option Addr) (m c : Nat) : CW w rp xp q m c p' n' cap' (u.setCell ⟨xp, 0, none⟩ (.slice q m c)) := h.put (h.xb.put0 q m c) (Kp.setCell _ ⟨xp, 0, none⟩ (by simp) _)
theorem CW.p1 (h : CW w rp xp p n cap p' n' cap' u) (q : Option Addr) (m c : Nat) : CW w rp xp p n cap q m c (u.setCell ⟨xp, 1, none⟩ (.slice q m c)) := h.put (h.xb.put1 q m c) (Kp.setCell _ ⟨xp, 1, none⟩ (by simp) _)
theorem CW.all (h : CW w rp xp p n cap p' n' cap' u) : CW w rp xp p n cap p' n' cap' ((u.setCell ⟨xp, 0, none⟩ (.slice p n cap)).setCell ⟨xp, 1, none⟩ (.slice p' n' cap')) := (h.p0 p n cap).p1 p' n' cap'
end
inductive CodePost (w : World) (rp : Nat) (D : Cd × Int × Int) (e : Ending) (w' : World) : Prop
  | mk (p : Option Addr) (n cap : Nat) (p' : Option Addr) (n' cap' : Nat) (he : e = .returned (.tuple #[.agg #[.slice p n cap, .slice p' n' cap'], evR D.2.1 D.2.2])) (hr : D.2.1 = 0 → n = D.1.texts.length ∧ n' = D.1.funs.length ∧ D.2.2 = 0 ∧ ∀ (X : List Nat) (W : World), Kp X w' W → (∀ y ∈ X, y < w.heap.size) → TextsIn W p D.1.texts ∧ FunsIn W p' D.1.funs) (hz : ¬ D.2.1 = 0 → D.1 = ⟨[], []⟩) (hk : Kp [rp] w w') : CodePost w rp D e w'
section
set_option maxHeartbeats 8000000
set_option maxRecDepth 100000
theorem code_read (w : World) (rp : Nat) (S : ByteArray) (h : PBox w rp S 0) (hSh : ShIn w) (hrp : 1 ≠ rp) : Calls Tryd.prog 22 #[.pointer (some ⟨rp, 0, none⟩)] w fun e w' => CodePost w rp (decR S) e w' := by
  have hC0 : CW w rp w.heap.size none 0 0 none 0 0 (w.alloc (.cells #[.slice none 0 0, .slice none 0 0] 25)) := ⟨(MapKept.heap_alloc w _).1, Kp.alloc _ _ _, by have := h.lt; omega, Nat.le_refl _⟩
  have hP0 : PBox (w.alloc (.cells #[.slice none 0 0, .slice none 0 0] 25)) rp S 0 := h.kp (Kp.alloc [] _ _) (by simp)
  have HC0 : Hid (CW w rp w.heap.size none 0 0 none 0 0 _) := hC0
  have HP0 : Hid (PBox _ rp S 0) := hP0
  have Hrl : Hid (rp < w.heap.size) := h.lt
  have HSh : Hid (∀ wx, Kp [rp] w wx → ShIn wx) := fun wx hx => hSh.of_block (hx.block 1 hSh.lt (by simpa using hrp))
  obtain ⟨R, hR⟩ : ∃ R, R = decR S := ⟨_, rfl⟩
  rw [← hR]
  have HR : Hid (R = decR S) := hR
  clear hC0 hP0 hSh h hR
  go_enter Tryd.func22, Tryd.ntmps22
  go_upto_region 1 with fail
  generalize w.alloc (.cells #[.slice none 0 0, .slice none 0 0] 25) = w0 at *
  by_cases hbig : 4000000 < S.size
  · have hR2 : R = (⟨[], []⟩, 1, 0) := by rw [HR.out]; unfold decR; rw [if_pos hbig]
    subst hR2
    have Hc : Hid _ := head_long w0 rp S HP0.out hbig
    clear HR hbig
    go_wp2_with fail
    refine Calls.mono Hc.out ?_
    rintro e1 w1 ⟨rfl, rfl⟩
    clear Hc
    obtain ⟨x0, x1, xl⟩ := HC0.out.xb.cells
    have xf0 := HC0.out.xb.fz 0
    have xf1 := HC0.out.xb.fz 1
    have hfin := HC0.out.all
    obtain ⟨z0, z1, _⟩ := hfin.xb.cells
    have Hfin : Hid _ := hfin.kp
    clear hfin
    go_wp2
    exact bodyPost_ret (v := .tuple #[.agg #[.slice none 0 0, .slice none 0 0], .iface 63 (.agg #[.int .i64 1, .int .i64 0])]) (by simp [results, Tryd.results22, go_sem, z0, z1]) rfl ⟨none, 0, 0, none, 0, 0, rfl, (fun hz => by cases hz), (fun _ => rfl), Hfin.out⟩
  have hS : S.size ≤ 4000000 := by omega
  have Hc : Hid _ := head_read w0 rp S HP0.out hS
  have Hd1 : Hid _ := dec_h (S := S) hbig
  have Hd2 : Hid _ := dec_t (S := S) hbig
  have Hd3 : Hid (∀ P, _) := fun P => dec_f (S := S) (P := P) hbig
  have Hd4 : Hid (∀ P P2, _) := fun P P2 => dec_e (S := S) (P := P) (P2 := P2) hbig
  have Hd5 : Hid (∀ P P2, _) := fun P P2 => dec_ok (S := S) (P := P) (P2 := P2) hbig
  rw [← HR.out] at Hd1 Hd2 Hd3 Hd4 Hd5
  clear HR
  generalize headR S 3 0 ⟨0, 0, 0⟩ = r1 at *
  go_wp2_with fail
  refine Calls.mono Hc.out ?_
  rintro e1 w1 ⟨rfl, hq1, k1⟩
  have HC1 : Hid (CW w rp w.heap.size none 0 0 none 0 0 w1) := CW.call HC0.out k1
  have Hq1 : Hid _ := hq1
  clear hq1 k1 Hc HC0 HP0
  obtain ⟨x0, x1, xl⟩ := HC1.out.xb.cells
  have xf0 := HC1.out.xb.fz 0
  have xf1 := HC1.out.xb.fz 1
  by_cases hz1 : ¬ r1.kind = 0
  · have hR2 := Hd1.out hz1
    have Hev : Hid (evR r1.kind r1.fat = .iface 63 (.agg #[.int .i64 r1.kind, .int .i64 r1.fat])) := evR_err hz1
    have Hz : Hid (¬ r1.kind = 0) := hz1
    have HR2 : Hid (R = (⟨[], []⟩, r1.kind, r1.fat)) := hR2
    rw [Hev.out]
    clear hz1 Hd1 Hd2 Hd3 Hd4 Hd5 Hq1 hR2
    have hfin := HC1.out.all
    obtain ⟨z0, z1, _⟩ := hfin.xb.cells
    have Hfin : Hid _ := hfin.kp
    clear hfin
    go_wp2
    exact bodyPost_ret (v := .tuple #[.agg #[.slice none 0 0, .slice none 0 0], .iface 63 (.agg #[.int .i64 r1.kind, .int .i64 r1.fat])]) (by simp [results, Tryd.results22, go_sem, z0, z1]) rfl ⟨none, 0, 0, none, 0, 0, by rw [HR2.out, Hev.out], (fun hz => by rw [HR2.out] at hz; exact absurd hz Hz.out), (fun _ => by rw [HR2.out]), Hfin.out⟩
  replace hz1 : r1.kind = 0 := Decidable.not_not.1 hz1
  obtain ⟨p1, h3S, hf1⟩ := Hq1.out hz1
  have Hc : Hid _ := textsL_read w1 rp S 3 p1 hS (by omega)
  have Hz1 : Hid (r1.kind = 0 ∧ r1.fat = 0) := ⟨hz1, hf1⟩
  rw [evR_nil hz1]
  clear Hd1 Hq1 p1 hz1 hf1
  generalize textsL S 3 = T at *
  obtain ⟨ts, r2⟩ := T
  simp only at Hc Hd2 Hd3 Hd4 Hd5
  go_wp2_with fail
  refine Calls.mono Hc.out ?_
  rintro e2 w2 ⟨q, m, cap, rfl, hq2, k2⟩
  have HC2 : Hid (CW w rp w.heap.size none 0 0 none 0 0 w2) := CW.call HC1.out k2
  have Hq2 : Hid _ := hq2
  have Hlt1 : Hid (w.heap.size < w1.heap.size ∧ w1.heap.size ≤ w2.heap.size) := ⟨xl, k2.size⟩
  clear hq2 k2 Hc
  clear x0 x1 xf0 xf1 xl
  obtain ⟨x0, x1, xl⟩ := HC2.out.xb.cells
  have xf0 := HC2.out.xb.fz 0
  have xf1 := HC2.out.xb.fz 1
  have HC3 : Hid (CW w rp w.heap.size q m cap none 0 0 (w2.setCell ⟨w.heap.size, 0, none⟩ (.slice q m cap))) := HC2.out.p0 q m cap
  have HK3 : Hid (Kp [w.heap.size] w2 (w2.setCell ⟨w.heap.size, 0, none⟩ (.slice q m cap))) := Kp.setCell _ ⟨w.heap.size, 0, none⟩ (by simp) _
  go_upto_region 5 with fail
  clear x0 x1 xf0 xf1 xl
  generalize w2.setCell ⟨w.heap.size, 0, none⟩ (.slice q m cap) = w3 at *
  obtain ⟨x0, x1, xl⟩ := HC3.out.xb.cells
  have xf0 := HC3.out.xb.fz 0
  have xf1 := HC3.out.xb.fz 1
  by_cases hz2 : ¬ r2.kind = 0
  · have hR2 := Hd2.out Hz1.out.1 Hz1.out.2 hz2
    have Hev : Hid (evR r2.kind r2.fat = .iface 63 (.agg #[.int .i64 r2.kind, .int .i64 r2.fat])) := evR_err hz2
    have Hz : Hid (¬ r2.kind = 0) := hz2
    have HR2 : Hid (R = (⟨[], []⟩, r2.kind, r2.fat)) := hR2
    rw [Hev.out]
    clear hz2 Hd2 Hd3 Hd4 Hd5 Hq2 hR2
    have hfin := HC3.out.all
    obtain ⟨z0, z1, _⟩ := hfin.xb.cells
    have Hfin : Hid _ := hfin.kp
    clear hfin
    go_wp2
    exact bodyPost_ret (v := .tuple #[.agg #[.slice q m cap, .slice none 0 0], .iface 63 (.agg #[.int .i64 r2.kind, .int .i64 r2.fat])]) (by simp [results, Tryd.results22, go_sem, z0, z1]) rfl ⟨q, m, cap, none, 0, 0, by rw [HR2.out, Hev.out], (fun hz => by rw [HR2.out] at hz; exact absurd hz Hz.out), (fun _ => by rw [HR2.out]), Hfin.out⟩
  replace hz2 : r2.kind = 0 := Decidable.not_not.1 hz2
  obtain ⟨rfl, hT2, hfr2, p2, hf2, hl2, hn2⟩ := Hq2.out hz2
  obtain ⟨P, k2, f2⟩ := r2
  simp only at hz2 hf2 hl2 p2
  subst hz2
  subst hf2
  have p3 : PBox w3 rp S P := p2.kp HK3.out (by simpa using Ne.symm HC2.out.xr)
  have HT3 : Hid (TextsIn w3 q ts ∧ ∀ b, q = some b → w1.heap.size ≤ b.block ∧ b.block < w2.heap.size) := ⟨hT2.kpx HK3.out (fun b hb => by have h1 := (hfr2 b hb).1; have h2 := Hlt1.out.1; simp only [List.mem_singleton]; omega), hfr2⟩
  have Hc : Hid _ := funsL_read w3 rp S P p3 (HSh.out w3 HC3.out.kp) hrp hS (by omega)
  rw [evR_nil rfl]
  have hd3 := Hd3.out P Hz1.out.1 Hz1.out.2 rfl
  have hd4 := fun P2 => Hd4.out P P2 Hz1.out.1 Hz1.out.2 rfl
  have hd5 := fun P2 => Hd5.out P P2 Hz1.out.1 Hz1.out.2 rfl
  generalize funsL S P = U at *
  obtain ⟨fs, r3⟩ := U
  simp only at hd3 hd4 hd5 Hc
  have Hd : Hid _ := And.intro hd3 (And.intro hd4 hd5)
  clear Hd2 Hd3 Hd4 Hd5 Hq2 hT2 hfr2 p2 p3 hd3 hd4 hd5
  go_wp2_with fail
  refine Calls.mono Hc.out ?_
  rintro e4 w4 ⟨q', m', cap', rfl, hq4, k4⟩
  have HC4 : Hid (CW w rp w.heap.size q ts.length cap none 0 0 w4) := CW.call HC3.out k4
  have HK4 : Hid (Kp [rp] w3 w4) := k4
  have Hq4 : Hid _ := hq4
  clear hq4 k4 Hc
  clear x0 x1 xf0 xf1 xl
  obtain ⟨x0, x1, xl⟩ := HC4.out.xb.cells
  have xf0 := HC4.out.xb.fz 0
  have xf1 := HC4.out.xb.fz 1
  have HC5 : Hid (CW w rp w.heap.size q ts.length cap q' m' cap' (w4.setCell ⟨w.heap.size, 1, none⟩ (.slice q' m' cap'))) := HC4.out.p1 q' m' cap'
  have HK5 : Hid (Kp [w.heap.size] w4 (w4.setCell ⟨w.heap.size, 1, none⟩ (.slice q' m' cap'))) := Kp.setCell _ ⟨w.heap.size, 1, none⟩ (by simp) _
  go_upto_region 8 with fail
  clear x0 x1 xf0 xf1 xl
  generalize w4.setCell ⟨w.heap.size, 1, none⟩ (.slice q' m' cap') = w5 at *
  obtain ⟨x0, x1, xl⟩ := HC5.out.xb.cells
  have xf0 := HC5.out.xb.fz 0
  have xf1 := HC5.out.xb.fz 1
  by_cases hz3 : ¬ r3.kind = 0
  · have hR2 := Hd.out.1 hz3
    have Hev : Hid (evR r3.kind r3.fat = .iface 63 (.agg #[.int .i64 r3.kind, .int .i64 r3.fat])) := evR_err hz3
    have Hz : Hid (¬ r3.kind = 0) := hz3
    have HR2 : Hid (R = (⟨[], []⟩, r3.kind, r3.fat)) := hR2
    rw [Hev.out]
    clear hz3 Hd Hq4 hR2
    have hfin := HC5.out.all
    obtain ⟨z0, z1, _⟩ := hfin.xb.cells
    have Hfin : Hid _ := hfin.kp
    clear hfin
    go_wp2
    exact bodyPost_ret (v := .tuple #[.agg #[.slice q ts.length cap, .slice q' m' cap'], .iface 63 (.agg #[.int .i64 r3.kind, .int .i64 r3.fat])]) (by simp [results, Tryd.results22, go_sem, z0, z1]) rfl ⟨q, ts.length, cap, q', m', cap', by rw [HR2.out, Hev.out], (fun hz => by rw [HR2.out] at hz; exact absurd hz Hz.out), (fun _ => by rw [HR2.out]), Hfin.out⟩
  replace hz3 : r3.kind = 0 := Decidable.not_not.1 hz3
  obtain ⟨rfl, hF4, p4, hf3, hl3, hn3⟩ := Hq4.out hz3
  obtain ⟨P2, k3, f3⟩ := r3
  simp only at hz3 hf3 hl3 p4
  subst hz3
  subst hf3
  have p5 : PBox w5 rp S P2 := p4.kp HK5.out (by simpa using Ne.symm HC4.out.xr)
  rw [evR_nil rfl]
  have Hl : Hid _ := left_any w5 rp S P2 p5 (by omega) (by omega)
  have Hp5 : Hid (PBox w5 rp S P2) := p5
  have HF4 : Hid _ := hF4
  clear p4 p5 hF4 Hq4
  go_wp2_with fail
  refine Calls.mono Hl.out ?_
  rintro e6 w6 ⟨rfl, k6⟩
  have HC6 : Hid (CW w rp w.heap.size q ts.length cap q' fs.length cap' w6) := CW.call HC5.out (Kp.mono k6 (by simp))
  have HK6 : Hid (Kp [] w5 w6) := k6
  have hp6 := PBox.kp Hp5.out k6 (by simp)
  obtain ⟨c0, c1, c2, c3⟩ := hp6.cells
  clear k6 Hl hp6
  clear x0 x1 xf0 xf1 xl
  obtain ⟨x0, x1, xl⟩ := HC6.out.xb.cells
  have xf0 := HC6.out.xb.fz 0
  have xf1 := HC6.out.xb.fz 1
  by_cases h4 : P2 < S.size
  · have hR2 := Hd.out.2.1 P2 rfl h4
    subst hR2
    have h4' : (0 : Int) < (S.size : Int) - P2 := by omega
    have Hr : Hid _ := refuse_any 16 P2 w6
    clear Hd HF4 HT3
    go_wp2_with fail
    refine Calls.mono Hr.out ?_
    rintro e7 w7 ⟨rfl, rfl⟩
    clear Hr
    have hfin := HC6.out.all
    obtain ⟨z0, z1, _⟩ := hfin.xb.cells
    have Hfin : Hid _ := hfin.kp
    clear hfin
    go_wp2
    exact bodyPost_ret (v := .tuple #[.agg #[.slice q ts.length cap, .slice q' fs.length cap'], .iface 63 (.agg #[.int .i64 16, .int .i64 P2])]) (by simp [results, Tryd.results22, go_sem, z0, z1]) rfl ⟨q, ts.length, cap, q', fs.length, cap', rfl, (fun hz => by cases hz), (fun _ => rfl), Hfin.out⟩
  · have hR2 := Hd.out.2.2 P2 rfl h4
    subst hR2
    have h4' : ¬ (0 : Int) < (S.size : Int) - P2 := by omega
    have hk7 : Kp [w.heap.size] w6 ((w6.setCell ⟨w.heap.size, 0, none⟩ (.slice q ts.length cap)).setCell ⟨w.heap.size, 1, none⟩ (.slice q' fs.length cap')) := (Kp.setCell w6 ⟨w.heap.size, 0, none⟩ (by simp) _).trans (Kp.setCell _ ⟨w.heap.size, 1, none⟩ (by simp) _)
    have HK7 : Hid (Kp [w.heap.size] w4 _) := Kp.trans HK5.out (Kp.trans (Kp.mono HK6.out (by simp)) hk7)
    have Hres : Hid (∀ (X : List Nat) (W : World), Kp X ((w6.setCell ⟨w.heap.size, 0, none⟩ (.slice q ts.length cap)).setCell ⟨w.heap.size, 1, none⟩ (.slice q' fs.length cap')) W → (∀ y ∈ X, y < w.heap.size) → TextsIn W q ts ∧ FunsIn W q' fs) := fun X W hk hX => by
      have hlt := Hlt1.out
      have hsz3 := HC3.out.xb.cells.2.2
      have hs23 := HK3.out.size
      have k4W : Kp (w.heap.size :: X) w4 W := (Kp.mono HK7.out (by simp)).trans (Kp.mono hk (by intro y hy; simp [hy]))
      refine ⟨?_, HF4.out _ _ k4W (fun y hy => ?_)⟩
      · have t4 := HT3.out.1.kpx HK4.out (fun b hb => by
          have h1 := (HT3.out.2 b hb).1
          have h5 := HC1.out.xr
          have h6 := HC1.out.kp.size
          simp only [List.mem_singleton]
          intro e
          have := Hrl.out
          omega)
        refine t4.kpx k4W (fun b hb hy => ?_)
        have h1 := (HT3.out.2 b hb).1
        rcases List.mem_cons.1 hy with e | e
        · omega
        · have := hX _ e
          omega
      · rcases List.mem_cons.1 hy with e | e
        · rw [e]; exact hsz3
        · have := hX _ e
          omega
    clear hk7 Hd HF4 HT3
    have hfin := HC6.out.all
    obtain ⟨z0, z1, _⟩ := hfin.xb.cells
    have Hfin : Hid _ := hfin.kp
    clear hfin
    go_wp2
    exact bodyPost_ret (v := .tuple #[.agg #[.slice q ts.length cap, .slice q' fs.length cap'], .nilIface]) (by simp [results, Tryd.results22, go_sem, z0, z1]) rfl ⟨q, ts.length, cap, q', fs.length, cap', rfl, (fun _ => ⟨rfl, rfl, rfl, Hres.out⟩), (fun hz => absurd rfl hz), Hfin.out⟩
end
end Go.Proofs.YtimdjcffmajmnaaDoor
