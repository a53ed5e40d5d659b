/-
  The program's Check: a function's flow gone through (flows).
-/
import Derived.Test.YtlekoldicnfeeaaDoorK3
namespace Go.Proofs.YtlekoldicnfeeaaDoor
open Go.RowKit Go.Deep
theorem made_none (w : World) (n : Nat) : KBox (w.alloc (.cells (madeCells #[.bool false, .int .i64 0, .int .i64 0] ((n + 1) * 3)) 153)) w.heap.size (List.replicate (n + 1) ⟨false, 0, 0⟩) := by
  have hm : ∀ k, k < (n + 1) * 3 → (madeCells #[Value.bool false, .int .i64 0, .int .i64 0] ((n + 1) * 3))[k]? = #[Value.bool false, .int .i64 0, .int .i64 0][k % 3]? := fun k hk => by
    have : k % 3 < 3 := by omega
    simp [madeCells, hk, this]
  refine ⟨_, (MapKept.heap_alloc w _).1, by simp [madeCells], ?_⟩
  intro i hi
  have hi2 : i < n + 1 := by simpa using hi
  have h0 := hm (i * 3) (by omega)
  have h1 := hm (i * 3 + 1) (by omega)
  have h2 := hm (i * 3 + 2) (by omega)
  rw [show i * 3 % 3 = 0 by omega] at h0
  rw [show (i * 3 + 1) % 3 = 1 by omega] at h1
  rw [show (i * 3 + 2) % 3 = 2 by omega] at h2
  simp only [List.getElem_replicate]
  exact ⟨by rw [h0]; rfl, by rw [h1]; rfl, by rw [h2]; rfl⟩
theorem KBox.first {w : World} {b n : Nat} (h : KBox w b (List.replicate (n + 1) ⟨false, 0, 0⟩)) : KBox (w.setCell ⟨b, 0, none⟩ (.bool true)) b (startL n) := by
  obtain ⟨cs, h1, h2, h3⟩ := h
  refine ⟨cs.setIfInBounds 0 (.bool true), by simp [World.setCell, Array.getElem?_modify, h1], by simp [h2, startL], ?_⟩
  intro i hi
  have hi2 : i < n + 1 := by simpa [startL] using hi
  obtain ⟨c0, c1, c2⟩ := h3 i (by simpa using hi2)
  simp only [List.getElem_replicate] at c0 c1 c2
  cases i with
  | zero =>
    refine ⟨?_, ?_, ?_⟩
    · simp [h2, startL]
    · rw [Array.getElem?_setIfInBounds, if_neg (by omega)]; simpa [startL] using c1
    · rw [Array.getElem?_setIfInBounds, if_neg (by omega)]; simpa [startL] using c2
  | succ j =>
    refine ⟨?_, ?_, ?_⟩
    · rw [Array.getElem?_setIfInBounds, if_neg (by omega), c0]; simp [startL]
    · rw [Array.getElem?_setIfInBounds, if_neg (by omega), c1]; simp [startL]
    · rw [Array.getElem?_setIfInBounds, if_neg (by omega), c2]; simp [startL]
inductive FlowsPost (w : World) (F : Int × Int) (e : Ending) (w' : World) : Prop
  | mk (pl : Int) (ok : Bool) (he : e = .returned (.tuple #[.int .i64 pl, .bool ok])) (h1 : ok = true → F = (0, 0)) (h2 : ok = false → F = (20, pl)) (hb : Below w.heap.size w w') : FlowsPost w F e w'
/-- What the walk of flows has in memory. -/
structure Flw (w : World) (fp : Nat) (p : Option Addr) (nt cap : Nat) (p' : Option Addr) (nf cap' b n : Nat) (L : List Sn) (wx : World) : Prop where
  flow : WBox wx fp p nt cap p' nf cap' b (n + 1) (n + 1)
  known : KBox wx b L
  len : L.length = n + 1
  apart : w.heap.size ≤ fp ∧ w.heap.size ≤ b
  kept : Below w.heap.size w wx
theorem flwA {w w0 : World} {p : Option Addr} {nt cap : Nat} {p' : Option Addr} {nf cap' n : Nat} (hb : Below w.heap.size w w0) : Flw w (w0.heap.size + 1) p nt cap p' nf cap' w0.heap.size n (List.replicate (n + 1) ⟨false, 0, 0⟩) ((w0.alloc (Obj.cells (madeCells #[.bool false, .int .i64 0, .int .i64 0] ((n + 1) * 3)) 153)).alloc (Obj.cells #[.slice p nt cap, .slice p' nf cap', .slice (some ⟨w0.heap.size, 0, none⟩) (n + 1) (n + 1)] 151)).drew := by
  have h1 := (MapKept.heap_alloc (w0.alloc (Obj.cells (madeCells #[.bool false, .int .i64 0, .int .i64 0] ((n + 1) * 3)) 153)) (Obj.cells #[.slice p nt cap, .slice p' nf cap', .slice (some ⟨w0.heap.size, 0, none⟩) (n + 1) (n + 1)] 151)).1
  have h2 : Below w.heap.size w (w0.alloc (Obj.cells (madeCells #[.bool false, .int .i64 0, .int .i64 0] ((n + 1) * 3)) 153)) := hb.alloc hb.size _
  have := hb.size
  refine ⟨?_, KBox.kp (made_none w0 n) ((Kp.alloc [] _ _).drew) (by simp), by simp, ⟨by omega, by omega⟩, (h2.alloc h2.size _).drew⟩
  unfold WBox
  rw [show (w0.alloc (Obj.cells (madeCells #[.bool false, .int .i64 0, .int .i64 0] ((n + 1) * 3)) 153)).heap.size = w0.heap.size + 1 by simp] at h1
  exact h1
theorem flwB {w w0 : World} {p : Option Addr} {nt cap : Nat} {p' : Option Addr} {nf cap' n : Nat} (hb : Below w.heap.size w w0) : Flw w w0.heap.size p nt cap p' nf cap' (w0.heap.size + 1) n (List.replicate (n + 1) ⟨false, 0, 0⟩) ((w0.alloc (Obj.cells #[.slice p nt cap, .slice p' nf cap', .slice (some ⟨w0.heap.size + 1, 0, none⟩) (n + 1) (n + 1)] 151)).alloc (Obj.cells (madeCells #[.bool false, .int .i64 0, .int .i64 0] ((n + 1) * 3)) 153)).drew := by
  have h1 := made_none (w0.alloc (Obj.cells #[.slice p nt cap, .slice p' nf cap', .slice (some ⟨w0.heap.size + 1, 0, none⟩) (n + 1) (n + 1)] 151)) n
  have h2 : Below w.heap.size w (w0.alloc (Obj.cells #[.slice p nt cap, .slice p' nf cap', .slice (some ⟨w0.heap.size + 1, 0, none⟩) (n + 1) (n + 1)] 151)) := hb.alloc hb.size _
  have := hb.size
  refine ⟨(Below.heap_alloc _ _ _ (by simp)).trans (MapKept.heap_alloc w0 _).1, ?_, by simp, ⟨by omega, by omega⟩, (h2.alloc h2.size _).drew⟩
  rw [show (w0.alloc (Obj.cells #[.slice p nt cap, .slice p' nf cap', .slice (some ⟨w0.heap.size + 1, 0, none⟩) (n + 1) (n + 1)] 151)).heap.size = w0.heap.size + 1 by simp] at h1
  exact KBox.kp h1 ((Kp.refl [] _).drew) (by simp)
theorem startL_at (n j : Nat) (h : j < 0) : isAt (startL n) j = true := by omega
theorem startL_len (n : Nat) : (startL n).length = n + 1 := by simp [startL]
section
set_option maxHeartbeats 8000000
set_option maxRecDepth 100000
theorem flows_any (w : World) (p : Option Addr) (nt cap : Nat) (p' : Option Addr) (cap' : Nat) (fs : List Fn) (f : Fn) (main : Bool) (q : Option Addr) (qc : Nat) (hI : InsIn w q f.ins) (hF : FunsIn w p' fs) (hS : ShIn w) (hG : SgIn w) (hfs : ∀ g ∈ fs, g.ok = true) (hok : f.ok = true) (hop : ∀ x ∈ f.ins, operandsP nt fs.length f x main = 0) :
    Calls Tryd.prog 47 #[.agg #[.slice p nt cap, .slice p' fs.length cap'], .slice q f.ins.length qc] w fun e w' => FlowsPost w (flowFrom fs f.ins 0 (startL f.ins.length)) e w' := by
  have hlen : f.ins.length ≤ 65535 := by
    have := (Fn.ok_parts hok).2.2.1
    rw [isTwo_len] at this
    exact of_decide_eq_true this
  have hins := (Fn.ok_parts hok).2.2.2
  have hk1 : Below w.heap.size w (w.alloc (.cells #[.slice p nt cap, .slice p' fs.length cap'] 25)) := (Below.refl _ _).alloc (Nat.le_refl _) _
  have hb1 : CBox (w.alloc (.cells #[.slice p nt cap, .slice p' fs.length cap'] 25)) w.heap.size p nt cap p' fs.length cap' := (MapKept.heap_alloc w _).1
  have HI : Hid (InsIn w q f.ins) := hI
  have HF : Hid (FunsIn w p' fs) := hF
  have HS : Hid (ShIn w) := hS
  have HG : Hid (SgIn w) := hG
  have Hfs : Hid (∀ g ∈ fs, g.ok = true) := hfs
  have Hop : Hid (∀ x ∈ f.ins, operandsP nt fs.length f x main = 0) := hop
  have Hins : Hid (∀ x ∈ f.ins, x.ok = true) := hins
  have Hk1 : Hid (Below _ _ _) := hk1
  have Hb1 : Hid (CBox _ _ _ _ _ _ _ _) := hb1
  obtain ⟨F, hFF⟩ : ∃ F, F = flowFrom fs f.ins 0 (startL f.ins.length) := ⟨_, rfl⟩
  rw [← hFF]
  have HFF : Hid (F = flowFrom fs f.ins 0 (startL f.ins.length)) := hFF
  clear hI hF hS hG hfs hop hins hk1 hb1 hFF hok
  go_enter Tryd.func47, Tryd.ntmps47
  go_upto_region 1 with fail
  generalize w.alloc (.cells #[.slice p nt cap, .slice p' fs.length cap'] 25) = w0 at *
  obtain ⟨x0, x1, x2⟩ := CBox.cells Hb1.out
  have hmk := make149 f.ins.length hlen
  have hnl : (f.ins.length : Int) ≤ 65535 := by omega
  go_cut [6] from 9 to 14 (fun fv wx => Hid (∃ fp b, fv = .pointer (some ⟨fp, 0, none⟩) ∧ Flw w fp p nt cap p' fs.length cap' b f.ins.length (List.replicate (f.ins.length + 1) ⟨false, 0, 0⟩) wx))
  case first =>
    go_region
    all_goals go_wp2_with fail
    all_goals go_meet
    · exact ⟨_, _, rfl, flwA Hk1.out⟩
    · exact ⟨_, _, rfl, flwB Hk1.out⟩
  case rest =>
    obtain ⟨fp, b, rfl, hflw⟩ := hcut.out
    clear hcut x0 x1 x2 hmk Hb1 Hk1
    rename World => w1
    obtain ⟨z0, z1, z2, z3⟩ := hflw.flow.cells
    obtain ⟨c0, -, -, fz⟩ := hflw.known.cells 0 (by simp)
    simp only [List.getElem_replicate, Nat.zero_mul] at c0
    have f0 := fz 0
    have hbl := hflw.known.lt
    have hflw2 : Flw w fp p nt cap p' fs.length cap' b f.ins.length (startL f.ins.length) (w1.setCell ⟨b, 0, none⟩ (.bool true)) := by
      have hkk : Kp [b] w1 (w1.setCell ⟨b, 0, none⟩ (.bool true)) := Kp.setCell w1 ⟨b, 0, none⟩ (by simp) _
      exact ⟨hflw.flow.kp hkk (by simpa using hflw.flow.ne hflw.known), hflw.known.first, startL_len _, hflw.apart, hflw.kept.trans (hkk.below hflw.kept.size (by simpa using hflw.apart.2))⟩
    have Hfl : Hid (Flw w fp p nt cap p' fs.length cap' b f.ins.length (startL f.ins.length) (w1.setCell ⟨b, 0, none⟩ (.bool true))) := hflw2
    clear hflw hflw2 fz
    go_upto_region 3 with fail
    clear z0 z1 z2 z3 c0 f0 hbl
    generalize w1.setCell ⟨b, 0, none⟩ (.bool true) = w2 at *
    go_wp2_with fail
    go_loopg [21] f.ins.length (fun g iv wr => ∃ i : Nat, iv = .int .i64 i ∧ i ≤ f.ins.length ∧ g = f.ins.length - i ∧ Hid (∃ L, Flw w fp p nt cap p' fs.length cap' b f.ins.length L wr ∧ LOk L i ∧ (∀ j, j < i → isAt L j = true) ∧ flowFrom fs (f.ins.drop i) i L = F))
    case atStart => exact ⟨0, rfl, by omega, by omega, _, Hfl.out, startL_ok _ _, fun j hj => by omega, HFF.out.symm⟩
    case round =>
      clear Hfl
      obtain ⟨i, rfl, hi1, rfl, HQ⟩ := hrel
      obtain ⟨L, r1, r2, r3, r4⟩ := HQ.out
      clear HQ
      by_cases hi : i < f.ins.length
      · have hi' : (i : Int) < f.ins.length := by omega
        obtain ⟨bb, o, hq, hbw, y0, y1, y2⟩ := HI.out.get i hi
        subst hq
        rw [drop_flow fs f.ins i hi] at r4
        have hxk := Hins.out _ (List.getElem_mem hi)
        have hxo := Hop.out _ (List.getElem_mem hi)
        generalize f.ins[i]'hi = x at *
        obtain ⟨kk, hkk, hk26⟩ := isOp_nat (In.ok_op hxk)
        obtain ⟨op, a, b'⟩ := x
        simp only at hkk
        subst hkk
        have hbe := r1.kept
        have v0 : wr.cell? ⟨bb, o + i * 3, none⟩ = some (.int .i64 (kk : Int)) := (hbe.cell (p := ⟨bb, o + i * 3, none⟩) hbw).trans y0
        have v1 : wr.cell? ⟨bb, o + i * 3 + 1, none⟩ = some (.int .i64 a) := (hbe.cell (p := ⟨bb, o + i * 3 + 1, none⟩) hbw).trans y1
        have v2 : wr.cell? ⟨bb, o + i * 3 + 2, none⟩ = some (.int .i64 b') := (hbe.cell (p := ⟨bb, o + i * 3 + 2, none⟩) hbw).trans y2
        have hbr : bb < wr.heap.size := Nat.lt_of_lt_of_le hbw hbe.size
        have hxb : IBox (wr.alloc (Obj.cells #[Value.int IntKind.i64 (kk : Int), Value.int IntKind.i64 a, Value.int IntKind.i64 b'] 47)) wr.heap.size ⟨kk, a, b'⟩ := (MapKept.heap_alloc wr _).1
        have hka : Kp [] wr (wr.alloc (Obj.cells #[Value.int IntKind.i64 (kk : Int), Value.int IntKind.i64 a, Value.int IntKind.i64 b'] 47)) := Kp.alloc [] _ _
        have hfl4 : Flw w fp p nt cap p' fs.length cap' b f.ins.length L (wr.alloc (Obj.cells #[Value.int IntKind.i64 (kk : Int), Value.int IntKind.i64 a, Value.int IntKind.i64 b'] 47)) := ⟨r1.flow.kp hka (by simp), r1.known.kp hka (by simp), r1.len, r1.apart, hbe.alloc hbe.size _⟩
        have hflow5 := hfl4.flow
        rw [← r1.len] at hflow5
        have Hc : Hid _ := step_any w (wr.alloc (Obj.cells #[Value.int IntKind.i64 (kk : Int), Value.int IntKind.i64 a, Value.int IntKind.i64 b'] 47)) fp p nt cap p' cap' b L.length fs f main kk hk26 a b' L i (by rw [r1.len]; omega) hxk hxo (by rw [r1.len]; omega) (by rw [r1.len]; omega) Hfs.out hflow5 hfl4.known HF.out HS.out HG.out hfl4.kept r2
        have hsf := step_flow fs ⟨kk, a, b'⟩ i L r2 (by rw [r1.len]; omega) (takes_range hxo hxk Hfs.out).1 r3
        have hfo : LOk (flowP fs ⟨kk, a, b'⟩ i L).2 (i + 1) := flow_ok r2 (by rw [r1.len]; omega)
        have hfl : (flowP fs ⟨kk, a, b'⟩ i L).2.length = f.ins.length + 1 := by rw [flow_len, r1.len]
        have hfi : (flowP fs ⟨kk, a, b'⟩ i L).1 = true → ∀ j, j < i + 1 → isAt (flowP fs ⟨kk, a, b'⟩ i L).2 j = true := fun h j hj => by
          by_cases hji : j < i
          · exact flow_is (r3 j hji)
          · obtain rfl : j = i := by omega
            exact flow_is (flow_here h)
        have Hxb : Hid (IBox _ _ _) := hxb
        have Hfl4 : Hid (Flw w fp p nt cap p' fs.length cap' b f.ins.length L _) := hfl4
        clear r1 r2 r3 hbe hbw y0 y1 y2 hxb hka hfl4 hflow5 hxk hxo
        generalize flowP fs ⟨kk, a, b'⟩ i L = fP at *
        generalize stepP fs ⟨kk, a, b'⟩ i L = sP at *
        obtain ⟨c1, L1⟩ := fP
        obtain ⟨c2, L2⟩ := sP
        simp only at hsf hfo hfl hfi r4 Hc
        obtain ⟨rfl, hs2⟩ := hsf
        have Hq : Hid _ := And.intro hs2 (And.intro hfo (And.intro hfl hfi))
        have Hr4 : Hid _ := r4
        clear hs2 hfo hfl hfi r4
        go_upto_region 6 with fail
        clear v0 v1 v2 hbr
        generalize wr.alloc (Obj.cells #[Value.int IntKind.i64 (kk : Int), Value.int IntKind.i64 a, Value.int IntKind.i64 b'] 47) = w4 at *
        obtain ⟨x0, x1, x2, x3⟩ := IBox.cells Hxb.out
        simp only at x0 x1 x2
        go_wp2_with fail
        refine Calls.mono Hc.out ?_
        rintro e1 w5 ⟨rfl, k5, kp5⟩
        have Hk5 : Hid (KBox w5 b L2 ∧ Kp [b] w4 w5) := ⟨k5, kp5⟩
        clear x0 x1 x2 x3 Hc k5 kp5
        cases c2
        · have hF2 : F = (20, (i : Int)) := by rw [← Hr4.out]; rfl
          have Hb5 : Hid (Below w.heap.size w w5) := Hfl4.out.kept.trans (Hk5.out.2.below Hfl4.out.kept.size (by simpa using Hfl4.out.apart.2))
          go_wp2
          exact bodyPost_ret (v := .tuple #[.int .i64 i, .bool false]) (by simp [results, Tryd.results47, go_sem]) rfl ⟨_, _, rfl, (fun h => by cases h), (fun _ => hF2), Hb5.out⟩
        · obtain rfl : L2 = L1 := Hq.out.1 rfl
          have Q5 : Hid (∃ L, Flw w fp p nt cap p' fs.length cap' b f.ins.length L w5 ∧ LOk L (i + 1) ∧ (∀ j, j < i + 1 → isAt L j = true) ∧ flowFrom fs (f.ins.drop (i + 1)) (i + 1) L = F) := by
            have h4 := Hfl4.out
            have hk := Hk5.out
            exact ⟨L2, ⟨h4.flow.kp hk.2 (by simpa using h4.flow.ne h4.known), hk.1, Hq.out.2.2.1, h4.apart, h4.kept.trans (hk.2.below h4.kept.size (by simpa using h4.apart.2))⟩, Hq.out.2.1, Hq.out.2.2.2 rfl, by rw [← Hr4.out]; rfl⟩
          clear Hq Hr4 Hfl4 Hk5 Hxb
          go_wp2
          go_roundg (f.ins.length - (i + 1))
          case measure => omega
          case rel => exact ⟨i + 1, by first | rfl | (congr 1; omega) | go_num, by omega, rfl, Q5⟩
      · have hi' : ¬ (i : Int) < f.ins.length := by omega
        obtain rfl : i = f.ins.length := by omega
        rw [drop_done f.ins f.ins.length (by omega), flowFrom] at r4
        obtain ⟨z0, z1, z2, z3⟩ := r1.flow.cells
        have hlL := r1.len
        obtain ⟨c0, -, -, -⟩ := r1.known.cells f.ins.length (by omega)
        have hbl := r1.known.lt
        have e0 : (L[f.ins.length]?).getD default = L[f.ins.length]'(by omega) := by simp [show f.ins.length < L.length by omega]
        rw [e0] at r4
        have Hb : Hid (Below w.heap.size w wr) := r1.kept
        have Hr4 : Hid _ := r4
        clear r1 r2 r3 e0 r4
        generalize (L[f.ins.length]'(by omega)).is = kn at *
        clear hlL
        go_wp2_with fail
        go_quiet (fail)
        go_wp2
        refine bodyPost_ret (v := .tuple #[.int .i64 f.ins.length, .bool (!kn)]) (by simp [results, Tryd.results47, go_sem]) rfl ⟨_, _, rfl, fun h => ?_, fun h => ?_, Below.drewN' Hb.out nq⟩
        · rw [← Hr4.out]
          cases kn
          · rfl
          · cases h
        · rw [← Hr4.out]
          cases kn
          · cases h
          · rfl
end
end Go.Proofs.YtlekoldicnfeeaaDoor
