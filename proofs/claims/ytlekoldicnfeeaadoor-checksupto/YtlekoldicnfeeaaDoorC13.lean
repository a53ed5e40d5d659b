/-
  The document's layer code: the first instruction of a function that cannot be (fun), walked.
-/
import Derived.Test.YtlekoldicnfeeaaDoorC12
import Derived.Test.YtlekoldicnfeeaaDoorC8
import Derived.Test.YtlekoldicnfeeaaDoorReg
namespace Go.Proofs.YtlekoldicnfeeaaDoor
open Go.RowKit Go.Deep
section
set_option maxHeartbeats 8000000
set_option maxRecDepth 100000
theorem fun_any (p : Option Addr) (nt cap : Nat) (p' : Option Addr) (fs : List Fn) (cap' : Nat) (f : Fn) (q : Option Addr) (qc : Nat) (main : Bool) (w : World) (hF : FunsIn w p' fs) (hI : InsIn w q f.ins) (hok : f.ok = true) (hfs : ∀ g ∈ fs, g.ok = true) (hn : nt ≤ 65535 ∧ fs.length ≤ 65535) :
    Calls Tryd.prog 28 #[.agg #[.slice p nt cap, .slice p' fs.length cap'], .agg #[.int .i64 f.free, .int .i64 f.slots, .slice q f.ins.length qc], .bool main] w fun e w' => e = .returned (.tuple #[.int .i64 (funP nt fs f main).1, .int .i64 (funP nt fs f main).2]) ∧ Below w.heap.size w w' := by
  have hlen : f.ins.length ≤ 65535 := by
    unfold Fn.ok isTwo at hok
    simp only [Bool.and_eq_true, decide_eq_true_eq] at hok
    omega
  obtain ⟨w0, hw0⟩ : ∃ w0, w0 = ((w.alloc (Obj.cells #[Value.slice p nt cap, Value.slice p' fs.length cap'] 25)).alloc (Obj.cells #[Value.int IntKind.i64 f.free, Value.int IntKind.i64 f.slots, Value.slice q f.ins.length qc] 50)) := ⟨_, rfl⟩
  have Hb : Hid (Below w.heap.size w w0) := by
    unfold Hid
    rw [hw0]
    exact ((Below.refl w.heap.size w).alloc (Nat.le_refl _) (Obj.cells #[Value.slice p nt cap, Value.slice p' fs.length cap'] 25)).alloc (by simp) (Obj.cells #[Value.int IntKind.i64 f.free, Value.int IntKind.i64 f.slots, Value.slice q f.ins.length qc] 50)
  have Hcb : Hid (CBox w0 w.heap.size p nt cap p' fs.length cap') := by
    unfold Hid CBox
    rw [hw0, Below.heap_alloc _ _ _ (by simp)]
    exact (MapKept.heap_alloc w _).1
  have Hfb : Hid (FBox w0 (w.heap.size + 1) f q qc) := by
    unfold Hid FBox
    rw [hw0]
    have := (MapKept.heap_alloc (w.alloc (Obj.cells #[Value.slice p nt cap, Value.slice p' fs.length cap'] 25)) (Obj.cells #[Value.int IntKind.i64 f.free, Value.int IntKind.i64 f.slots, Value.slice q f.ins.length qc] 50)).1
    simpa using this
  have hsz1 : w.heap.size + 1 < w0.heap.size := by rw [hw0]; simp
  have hsz2 : w.heap.size < w0.heap.size := by omega
  have HF : Hid (FunsIn w p' fs) := hF
  have HI : Hid (InsIn w q f.ins) := hI
  have Hok : Hid (f.ok = true) := hok
  have Hfs : Hid (∀ g ∈ fs, g.ok = true) := hfs
  have Hw0 : Hid (w0 = ((w.alloc (Obj.cells #[Value.slice p nt cap, Value.slice p' fs.length cap'] 25)).alloc (Obj.cells #[Value.int IntKind.i64 f.free, Value.int IntKind.i64 f.slots, Value.slice q f.ins.length qc] 50))) := hw0
  clear hF hI hok hfs hw0
  obtain ⟨hn1, hn2⟩ := hn
  have HP : Hid (∀ r, operFrom nt fs.length f main f.ins 0 = some r → r = funP nt fs f main) := fun r hr => by
    unfold funP
    rw [hr]
  have HP2 : Hid (operFrom nt fs.length f main f.ins 0 = none → flowFrom fs f.ins 0 (startL f.ins.length) = funP nt fs f main) := fun hr => by
    unfold funP
    rw [hr]
  generalize funP nt fs f main = R at *
  go_enter Tryd.func28, Tryd.ntmps28
  go_wp2_with fail
  rw [← Hw0.out]
  clear Hw0
  go_loopg [9, 10] f.ins.length (fun g iv ev wr => ∃ (i : Nat), iv = .int .i64 i ∧ i ≤ f.ins.length ∧ g = f.ins.length - i ∧ Hid (operFrom nt fs.length f main f.ins 0 = operFrom nt fs.length f main (f.ins.drop i) i ∧ Below w0.heap.size w0 wr))
  case atStart => exact ⟨0, rfl, by omega, by omega, by simp, Below.refl _ _⟩
  case round =>
    obtain ⟨i, rfl, hi1, rfl, HR⟩ := hrel
    by_cases hi : i < f.ins.length
    · have hi' : (i : Int) < f.ins.length := by omega
      obtain ⟨bI, oI, rfl, hbI, x0, x1, x2⟩ := (InsIn.below HI.out Hb.out).get i hi
      have Hcl : Hid (∀ wx, Below w0.heap.size w0 wx → bI < wx.heap.size ∧ wx.cell? ⟨w.heap.size, 0, none⟩ = some (.slice p nt cap) ∧ wx.cell? ⟨w.heap.size, 1, none⟩ = some (.slice p' fs.length cap') ∧ wx.cell? ⟨w.heap.size + 1, 0, none⟩ = some (.int .i64 f.free) ∧ wx.cell? ⟨w.heap.size + 1, 1, none⟩ = some (.int .i64 f.slots) ∧ wx.cell? ⟨w.heap.size + 1, 2, none⟩ = some (.slice (some ⟨bI, oI, none⟩) f.ins.length qc) ∧ wx.cell? ⟨bI, oI + i * 3, none⟩ = some (.int .i64 (f.ins[i]'hi).op) ∧ wx.cell? ⟨bI, oI + i * 3 + 1, none⟩ = some (.int .i64 (f.ins[i]'hi).a) ∧ wx.cell? ⟨bI, oI + i * 3 + 2, none⟩ = some (.int .i64 (f.ins[i]'hi).b)) := fun wx hx => by
        obtain ⟨k0, k1, k2⟩ := (CBox.below Hcb.out hx).cells
        obtain ⟨m0, m1, m2, m3⟩ := (FBox.below Hfb.out hx).cells
        exact ⟨Nat.lt_of_lt_of_le hbI hx.size, k0, k1, m0, m1, m2, (hx.cell (p := ⟨bI, oI + i * 3, none⟩) hbI).trans x0, (hx.cell (p := ⟨bI, oI + i * 3 + 1, none⟩) hbI).trans x1, (hx.cell (p := ⟨bI, oI + i * 3 + 2, none⟩) hbI).trans x2⟩
      have Hop : Hid (∀ wx, _) := fun wx => operands_any p nt cap p' fs.length cap' f (some ⟨bI, oI, none⟩) qc (f.ins[i]'hi) main wx ⟨by omega, by omega, by omega⟩
      have Hd : Hid _ := drop_oper nt fs.length f main f.ins i hi
      generalize hxi : (f.ins[i]'hi) = x at *
      clear x0 x1 x2
      go_upto_region 5 with fail
      refine region_in (C := fun wx => Below w0.heap.size w0 wx) (by kernel_rfl) (by kernel_rfl) (Below.drew HR.out.2) ?_
      repeat
        refine wpQuiet_step (fun K hK => ?_)
        first
          | (go_simp; refine hK _ ?_; clear hK K)
          | (rw [if_pos (by rfl)]; apply Exists.intro; refine ⟨fun wx hwx => ?_, hK _ ?_⟩; (obtain ⟨kb, k0, k1, k2, k3, k4, k5, k6, k7⟩ := Hcl.out wx hwx; unfold Oper.quietAt; go_simp; first | done | rfl | exact ⟨rfl, rfl⟩ | (refine Calls.mono (Hop.out _) ?_; rintro e9 w9 ⟨rfl, hb9⟩; exact ⟨rfl, Below.then hwx hb9 (Nat.le_refl _)⟩)); clear hK K; go_simp)
      refine wpQuiet_nil ?_
      intro w9 hw9
      have hr1 := HR.out.1
      rw [Hd.out] at hr1
      have Hw9 : Hid (Below w0.heap.size w0 w9) := hw9
      clear HR Hd Hop Hcl hw9
      generalize operandsP nt fs.length f x main = ev at *
      by_cases hev : ev = 0
      · have hb0 : (ev != 0) = false := by simpa using hev
        rw [if_pos hev] at hr1
        have Q : Hid (operFrom nt fs.length f main f.ins 0 = operFrom nt fs.length f main (f.ins.drop (i + 1)) (i + 1) ∧ Below w0.heap.size w0 w9) := ⟨hr1, Hw9.out⟩
        clear hr1 hev Hw9
        go_wp2
        go_roundg (f.ins.length - (i + 1))
        case measure => omega
        case rel => exact ⟨i + 1, by first | rfl | (congr 1; omega) | go_num, by omega, rfl, Q⟩
      · have hb0 : (ev != 0) = true := by simpa using hev
        rw [if_neg hev] at hr1
        have Q : Hid ((ev, (i : Int)) = R) := HP.out _ hr1
        clear hr1 hev
        go_wp2
        refine bodyPost_ret (v := .tuple #[.int .i64 ev, .int .i64 i]) (by simp [results, Tryd.results28, go_sem]) rfl ⟨?_, Below.trans Hb.out (Below.mono Hw9.out (by omega))⟩
        rw [← Q.out]
    · have hi' : ¬ (i : Int) < f.ins.length := by omega
      obtain rfl : i = f.ins.length := by omega
      have hnone : operFrom nt fs.length f main f.ins 0 = none := by
        rw [HR.out.1, List.drop_eq_nil_of_le (Nat.le_refl _)]
        rfl
      have Hfl : Hid (flowFrom fs f.ins 0 (startL f.ins.length) = R) := HP2.out hnone
      have Hall : Hid (∀ x ∈ f.ins, operandsP nt fs.length f x main = 0) := operFrom_none nt fs.length f main f.ins 0 hnone
      have Hwr : Hid (Below w0.heap.size w0 wr) := HR.out.2
      have hmk := make62 f.ins.length hlen wr
      clear HP HP2 hnone HR hi
      obtain ⟨w1, hw1⟩ : ∃ w1, w1 = wr.alloc (.cells ((madeCells #[.bool false, .int .i64 0, .int .i64 0] ((f.ins.length + 1) * 3)).setIfInBounds 0 (.bool true)) 117) := ⟨_, rfl⟩
      have Hw1 : Hid (w1 = wr.alloc (.cells ((madeCells #[.bool false, .int .i64 0, .int .i64 0] ((f.ins.length + 1) * 3)).setIfInBounds 0 (.bool true)) 117)) := hw1
      have HS1 : Hid (SBox w1 wr.heap.size (startL f.ins.length)) := by unfold Hid; rw [hw1]; exact made_start wr _
      have HK1 : Hid (Kp [wr.heap.size] wr w1) := by unfold Hid; rw [hw1]; exact Kp.alloc _ _ _
      have hlw : wr.heap.size < w1.heap.size := SBox.lt HS1.out
      have hw0l : w0.heap.size ≤ wr.heap.size := Below.size Hwr.out
      have hm0 : (madeCells #[Value.bool false, .int .i64 0, .int .i64 0] ((f.ins.length + 1) * 3))[0]? = some (.bool false) := by simp [madeCells]
      clear hw1
      have Hcl : Hid (∀ wx, Kp [wr.heap.size] w1 wx → w1.heap.size ≤ wx.heap.size ∧ wx.cell? ⟨w.heap.size, 0, none⟩ = some (.slice p nt cap) ∧ wx.cell? ⟨w.heap.size, 1, none⟩ = some (.slice p' fs.length cap') ∧ wx.cell? ⟨w.heap.size + 1, 0, none⟩ = some (.int .i64 f.free) ∧ wx.cell? ⟨w.heap.size + 1, 1, none⟩ = some (.int .i64 f.slots) ∧ wx.cell? ⟨w.heap.size + 1, 2, none⟩ = some (.slice q f.ins.length qc) ∧ Below w.heap.size w wx) := fun wx hx => by
        have hb1 : Below w0.heap.size w0 wx := Below.trans Hwr.out (Kp.below (HK1.out.trans hx) hw0l (by simp; omega))
        obtain ⟨k0, k1, k2⟩ := (CBox.below Hcb.out hb1).cells
        obtain ⟨m0, m1, m2, m3⟩ := (FBox.below Hfb.out hb1).cells
        exact ⟨hx.size, k0, k1, m0, m1, m2, Below.trans Hb.out (hb1.mono (Below.size Hb.out))⟩
      go_wp2_with fail
      rw [← Hw1.out]
      clear Hw1 hmk HK1 Hwr Hb Hcb Hfb
      go_loopg [12, 18] f.ins.length (fun g iv _ wx => ∃ (i : Nat) (L : List Sn), iv = .int .i64 i ∧ i ≤ f.ins.length ∧ g = f.ins.length - i ∧ Hid (flowFrom fs (f.ins.drop i) i L = R ∧ SBox wx wr.heap.size L ∧ L.length = f.ins.length + 1 ∧ LOk L i ∧ Kp [wr.heap.size] w1 wx))
      case atStart => exact ⟨0, startL f.ins.length, rfl, by omega, by omega, Hfl.out, HS1.out, by simp [startL], startL_ok _ _, Kp.refl _ _⟩
      case round =>
        clear Hfl HS1
        rename World => wy
        obtain ⟨i, L, rfl, hi1, rfl, HR⟩ := hrel
        obtain ⟨k0, k1, k2, k3, k4, k5, Hbw⟩ := Hcl.out _ HR.out.2.2.2.2
        by_cases hi : i < f.ins.length
        · have hi' : (i : Int) < f.ins.length := by omega
          obtain ⟨bI, oI, rfl, hbI, x0, x1, x2⟩ := (InsIn.below HI.out Hbw).get i hi
          obtain ⟨r1, r2, r3, r4, r5⟩ := HR.out
          have hiL : i < L.length := by omega
          obtain ⟨s0, s1, s2, _⟩ := r2.cells i hiL
          have hlb := r2.lt
          have hgd : (L[i]?).getD default = L[i]'hiL := by simp [hiL]
          have hs := r4 _ (List.getElem_mem hiL)
          have hop := Hall.out _ (List.getElem_mem hi)
          have hxok := (Fn.ok_parts Hok.out).2.2.2 _ (List.getElem_mem hi)
          have ht := takes_range hop hxok Hfs.out
          have hp := puts_range (f.ins[i]'hi)
          have Hjmp : Hid ((f.ins[i]'hi).op = 18 ∨ (f.ins[i]'hi).op = 19 ∨ (f.ins[i]'hi).op = 20 → 0 ≤ (f.ins[i]'hi).a ∧ (f.ins[i]'hi).a < f.ins.length) := fun hj => ⟨(two_range (In.ok_one hxok (by rcases hj with h | h | h <;> rw [h] <;> rfl))).1, oper_jump hop hj⟩
          have Hmk : Hid ((f.ins[i]'hi).op = 13 → 0 ≤ (f.ins[i]'hi).a ∧ (f.ins[i]'hi).a < fs.length) := fun h => ⟨Int.le_of_lt (oper_make hop h).1, (oper_make hop h).2⟩
          rw [drop_flow fs f.ins i hi L] at r1
          have Hflow : Hid (flowP fs (f.ins[i]'hi) i L = flowP fs (f.ins[i]'hi) i L) := rfl
          have HFw : Hid (FunsIn wy p' fs) := FunsIn.below HF.out Hbw
          have hxx : (f.ins[i]'hi) ∈ f.ins := List.getElem_mem hi
          clear hxx hop hxok
          generalize (f.ins[i]'hi) = x at *
          generalize hsx : (L[i]'hiL) = sn at *
          have Hsx : Hid ((L[i]?).getD default = sn) := hgd
          clear hsx hgd Hflow
          obtain ⟨op, xa, xb⟩ := x
          obtain ⟨si, sv, st⟩ := sn
          simp only at *
          obtain ⟨hs1, hs2, hs3, hs4⟩ := hs
          obtain ⟨ht1, ht2⟩ := ht
          obtain ⟨hp1, hp2⟩ := hp
          obtain ⟨w2, hw2⟩ : ∃ w2, w2 = (wy.alloc (Obj.cells #[.int .i64 op, .int .i64 xa, .int .i64 xb] 47)).alloc (Obj.cells #[.bool si, .int .i64 sv, .int .i64 st] 117) := ⟨_, rfl⟩
          have HX2 : Hid (XBox w2 wy.heap.size ⟨op, xa, xb⟩) := by
            unfold Hid XBox
            rw [hw2, Below.heap_alloc _ _ _ (by simp)]
            exact (MapKept.heap_alloc wy _).1
          have HN2 : Hid (NBox w2 (wy.heap.size + 1) ⟨si, sv, st⟩) := by
            unfold Hid NBox
            rw [hw2]
            have := (MapKept.heap_alloc (wy.alloc (Obj.cells #[.int .i64 op, .int .i64 xa, .int .i64 xb] 47)) (Obj.cells #[.bool si, .int .i64 sv, .int .i64 st] 117)).1
            simpa using this
          have HK2 : Hid (Kp [] wy w2) := by unfold Hid; rw [hw2]; exact (Kp.alloc _ _ _).trans (Kp.alloc _ _ _)
          have Hw2 : Hid (w2 = (wy.alloc (Obj.cells #[.int .i64 op, .int .i64 xa, .int .i64 xb] 47)).alloc (Obj.cells #[.bool si, .int .i64 sv, .int .i64 st] 117)) := hw2
          have hz2 : wy.heap.size + 1 < w2.heap.size := by rw [hw2]; simp
          have hz3 : wy.heap.size < w2.heap.size := by omega
          have HRes : Hid ((if (flowP fs ⟨op, xa, xb⟩ i L).1 = true then flowFrom fs (f.ins.drop (i + 1)) (i + 1) (flowP fs ⟨op, xa, xb⟩ i L).2 else (20, (i : Int))) = R) := r1
          clear hw2 hm0
          go_upto_region 15 with fail
          rw [← Hw2.out]
          clear Hw2
          have Hk2 : Hid (Kp [wr.heap.size] w1 w2) := r5.trans (Kp.mono HK2.out (by simp))
          obtain ⟨q0, q1, q2, q3, q4, q5, q6⟩ := Hcl.out _ Hk2.out
          obtain ⟨y0, y1, y2, _⟩ := XBox.cells HX2.out
          go_wp2_with fail
          refine (takes_any p nt cap p' fs cap' ⟨op, xa, xb⟩ w2 (FunsIn.below HFw.out (Kp.below HK2.out (Nat.le_refl _) (by simp))) Hmk.out).mono ?_
          rintro e3 w3 ⟨rfl, hb3⟩
          generalize htk : takesP fs ⟨op, xa, xb⟩ = t at *
          have Htk : Hid (takesP fs ⟨op, xa, xb⟩ = t) := htk
          generalize hpk : putsP ⟨op, xa, xb⟩ = pk at *
          have Hpk : Hid (putsP ⟨op, xa, xb⟩ = pk) := hpk
          have Hputs : Hid (∀ wx, Calls Tryd.prog 50 #[.agg #[.int .i64 op, .int .i64 xa, .int .i64 xb]] wx fun e w' => e = .returned (.int .i64 pk) ∧ Below wx.heap.size wx w') := fun wx => by
            rw [← hpk]
            exact puts_any ⟨op, xa, xb⟩ wx
          have hv1 : IntKind.i64.wrap (sv - t) = sv - t := IntWalk.i64_in _ (by omega)
          have hv2 : IntKind.i64.wrap (sv - t + pk) = sv - t + pk := IntWalk.i64_in _ (by omega)
          have HX3 : Hid (XBox w3 wy.heap.size ⟨op, xa, xb⟩) := XBox.kp HX2.out (Kp.of_below (X := []) hb3) (by simp)
          have HN3 : Hid (NBox w3 (wy.heap.size + 1) ⟨si, sv, st⟩) := NBox.kp HN2.out (Kp.of_below (X := []) hb3) (by simp)
          have Hk3 : Hid (Kp [] wy w3) := HK2.out.trans (Kp.of_below hb3)
          have hz4 : wy.heap.size + 1 < w3.heap.size := NBox.lt HN3.out
          clear htk hpk q0 q1 q2 q3 q4 q5 q6 y0 y1 y2 hb3 HX2 HN2 Hk2 HK2 x0 x1 x2 s0 s1 s2 hz2 hz3
          go_upto_region 16 with fail
          go_cut [16] from 63 to 72 (fun a wx => Hid (∃ nb, a = .pointer (some ⟨nb, 0, none⟩) ∧ NBox wx nb ⟨true, sv - t + pk, st⟩ ∧ w3.heap.size ≤ nb ∧ Below w3.heap.size w3 wx))
          case first =>
            have Hcc : Hid (∀ wx, Below w3.heap.size w3 wx → wx.cell? ⟨wy.heap.size, 0, none⟩ = some (.int .i64 op) ∧ wx.cell? ⟨wy.heap.size, 1, none⟩ = some (.int .i64 xa) ∧ wx.cell? ⟨wy.heap.size, 2, none⟩ = some (.int .i64 xb) ∧ wx.cell? ⟨wy.heap.size + 1, 1, none⟩ = some (.int .i64 sv) ∧ wx.cell? ⟨wy.heap.size + 1, 2, none⟩ = some (.int .i64 st) ∧ wy.heap.size + 1 < wx.heap.size) := fun wx hx => by
              obtain ⟨a0, a1, a2, _⟩ := XBox.cells (XBox.kp HX3.out (Kp.of_below (X := []) hx) (by simp))
              have hN := NBox.kp HN3.out (Kp.of_below (X := []) hx) (by simp)
              obtain ⟨b0, b1, b2, _⟩ := NBox.cells hN
              exact ⟨a0, a1, a2, b1, b2, hN.lt⟩
            refine region_any (C := fun wx => Below w3.heap.size w3 wx) (by kernel_rfl) ?_
            refine anyIn_read (i := 0) rfl (by kernel_rfl) (by kernel_rfl) (by kernel_rfl) (fun _ _ _ _ h => h) ?_
            apply Exists.intro
            refine ⟨Or.inl ⟨by rfl, fun wx hwx => ?_⟩, ?_⟩
            (obtain ⟨f0, f1, f2, f3, f4, f5⟩ := Hcc.out wx hwx; go_simp; first | done | with_reducible rfl)
            refine anyIn_read (i := 1) rfl (by kernel_rfl) (by kernel_rfl) (by kernel_rfl) (fun _ _ _ _ h => h) ?_
            apply Exists.intro
            refine ⟨Or.inl ⟨by rfl, fun wx hwx => ?_⟩, ?_⟩
            (obtain ⟨f0, f1, f2, f3, f4, f5⟩ := Hcc.out wx hwx; go_simp; first | done | with_reducible rfl)
            refine anyIn_read (i := 2) rfl (by kernel_rfl) (by kernel_rfl) (by kernel_rfl) (fun _ _ _ _ h => h) ?_
            apply Exists.intro
            refine ⟨Or.inl ⟨by rfl, fun wx hwx => ?_⟩, ?_⟩
            (obtain ⟨f0, f1, f2, f3, f4, f5⟩ := Hcc.out wx hwx; go_simp; first | done | with_reducible rfl)
            refine anyIn_read (i := 3) rfl (by kernel_rfl) (by kernel_rfl) (by kernel_rfl) (fun _ _ _ _ h => h) ?_
            apply Exists.intro
            refine ⟨Or.inl ⟨by rfl, fun wx hwx => ?_⟩, ?_⟩
            (obtain ⟨f0, f1, f2, f3, f4, f5⟩ := Hcc.out wx hwx; go_simp; first | done | with_reducible rfl)
            refine anyIn_read (i := 4) rfl (by kernel_rfl) (by kernel_rfl) (by kernel_rfl) (fun _ _ _ _ h => h) ?_
            apply Exists.intro
            refine ⟨Or.inl ⟨by rfl, fun wx hwx => ?_⟩, ?_⟩
            (obtain ⟨f0, f1, f2, f3, f4, f5⟩ := Hcc.out wx hwx; go_simp; first | done | with_reducible rfl)
            refine anyIn_read (i := 7) rfl (by kernel_rfl) (by kernel_rfl) (by kernel_rfl) (fun _ _ _ _ h => h) ?_
            apply Exists.intro
            refine ⟨Or.inl ⟨by rfl, fun wx hwx => ?_⟩, ?_⟩
            (obtain ⟨f0, f1, f2, f3, f4, f5⟩ := Hcc.out wx hwx; go_simp; first | done | with_reducible rfl)
            refine anyIn_read (i := 8) rfl (by kernel_rfl) (by kernel_rfl) (by kernel_rfl) (fun _ _ _ _ h => h) ?_
            apply Exists.intro
            refine ⟨Or.inl ⟨by rfl, fun wx hwx => ?_⟩, ?_⟩
            (obtain ⟨f0, f1, f2, f3, f4, f5⟩ := Hcc.out wx hwx; go_simp; first | done | with_reducible rfl)
            have hCd : Below w3.heap.size w3 w3.drew := (Below.refl _ _).drew
            refine anyIn_two (i := 5) (j := 10) hCd rfl rfl (by kernel_rfl) (fun K hK => ?_) (fun K hK => ?_)
            · go_simp
              refine Calls.mono (Hputs.out _) ?_
              rintro e9 w4 ⟨rfl, hb4⟩
              refine hK _ _ ?_
              clear hK K
              have hC4 : Below w3.heap.size w3 w4 := Below.then hCd hb4 (Nat.le_refl _)
              refine anyIn_read (i := 6) rfl (by kernel_rfl) (by kernel_rfl) (by kernel_rfl) (fun _ _ _ _ h => h) ?_
              apply Exists.intro
              refine ⟨Or.inl ⟨by rfl, fun wx hwx => ?_⟩, ?_⟩
              (go_simp; first | done | with_reducible rfl)
              refine anyIn_read (i := 9) rfl (by kernel_rfl) (by kernel_rfl) (by kernel_rfl) (fun _ _ _ _ h => h) ?_
              apply Exists.intro
              refine ⟨Or.inl ⟨by rfl, fun wx hwx => ?_⟩, ?_⟩
              (go_simp; first | done | with_reducible rfl)
              refine anyIn_one (i := 10) hC4 rfl (by kernel_rfl) (fun K hK => ?_)
              go_simp
              refine hK _ _ ?_
              clear hK K
              refine anyIn_one (i := 11) (hC4.alloc hC4.size _) rfl (by kernel_rfl) (fun K hK => ?_)
              go_simp
              refine hK _ _ ?_
              clear hK K
              refine anyIn_done (hC4.alloc hC4.size _) (by kernel_rfl) ?_
              go_wp2_with fail
              go_meet
              exact ⟨w4.heap.size, rfl, (MapKept.heap_alloc w4 _).1, hC4.size, hC4.alloc hC4.size _⟩
            · go_simp
              refine hK _ _ ?_
              clear hK K
              have hC4 : Below w3.heap.size w3 (w3.alloc (Obj.cells #[Value.bool false, Value.int IntKind.i64 0, Value.int IntKind.i64 0] 117)).drew := ((Below.refl _ _).alloc (Nat.le_refl _) _).drew
              refine anyIn_one (i := 5) hC4 rfl (by kernel_rfl) (fun K hK => ?_)
              go_simp
              refine Calls.mono (Hputs.out _) ?_
              rintro e9 w4 ⟨rfl, hb4⟩
              refine hK _ _ ?_
              clear hK K
              have hC5 : Below w3.heap.size w3 w4 := Below.then hC4 hb4 (Nat.le_refl _)
              have hnx : NBox w4 w3.heap.size ⟨false, 0, 0⟩ := (hb4.block _ (by simp)).trans (MapKept.heap_alloc w3 _).1
              obtain ⟨g0, g1, g2, gf⟩ := NBox.cells hnx
              have g3 := gf 0
              have g4 := gf 1
              have g5 := gf 2
              have g6 := NBox.lt hnx
              have Hnx : Hid (NBox w4 w3.heap.size ⟨false, 0, 0⟩) := hnx
              clear hnx gf
              refine anyIn_read (i := 6) rfl (by kernel_rfl) (by kernel_rfl) (by kernel_rfl) (fun _ _ _ _ h => h) ?_
              apply Exists.intro
              refine ⟨Or.inl ⟨by rfl, fun wx hwx => ?_⟩, ?_⟩
              (go_simp; first | done | with_reducible rfl)
              refine anyIn_read (i := 9) rfl (by kernel_rfl) (by kernel_rfl) (by kernel_rfl) (fun _ _ _ _ h => h) ?_
              apply Exists.intro
              refine ⟨Or.inl ⟨by rfl, fun wx hwx => ?_⟩, ?_⟩
              (go_simp; first | done | with_reducible rfl)
              refine anyIn_one (i := 11) hC5 rfl (by kernel_rfl) (fun K hK => ?_)
              go_simp
              refine hK _ _ ?_
              clear hK K
              have hC6 : Below w3.heap.size w3 (((w4.setCell ⟨w3.heap.size, 0, none⟩ (.bool true)).setCell ⟨w3.heap.size, 1, none⟩ (.int .i64 (sv - t + pk))).setCell ⟨w3.heap.size, 2, none⟩ (.int .i64 st)) := ((hC5.setCell (p := ⟨w3.heap.size, 0, none⟩) (Nat.le_refl _) _).setCell (p := ⟨w3.heap.size, 1, none⟩) (Nat.le_refl _) _).setCell (p := ⟨w3.heap.size, 2, none⟩) (Nat.le_refl _) _
              have hN6 := NBox.set3 Hnx.out ⟨true, sv - t + pk, st⟩
              refine anyIn_done hC6 (by kernel_rfl) ?_
              go_wp2_with fail
              go_meet
              exact ⟨w3.heap.size, rfl, hN6, Nat.le_refl _, hC6⟩
          case rest =>
            obtain ⟨nb, rfl, hnb, hnb1, hbc⟩ := hcut.out
            have hnv1 : -65535 ≤ sv - t + pk := by omega
            have hnv2 : sv - t + pk ≤ 5001 := by omega
            obtain ⟨nv, hnv⟩ : ∃ nv, nv = sv - t + pk := ⟨_, rfl⟩
            have Hnv : Hid (nv = sv - t + pk) := hnv
            rw [← hnv] at hnb hnv1 hnv2
            obtain ⟨wd, hwd⟩ : ∃ wd, wd = wc.alloc (Obj.cells #[.bool true, .int .i64 nv, .int .i64 st] 117) := ⟨_, rfl⟩
            have hkd : Kp [] wc wd := by rw [hwd]; exact Kp.alloc _ _ _
            have HKd : Hid (Kp [] wy wd) := (Kp.trans Hk3.out (Kp.of_below hbc)).trans hkd
            have HNd : Hid (NBox wd nb ⟨true, nv, st⟩) := NBox.kp hnb hkd (by simp)
            have HJd : Hid (NBox wd wc.heap.size ⟨true, nv, st⟩) := by unfold Hid; rw [hwd]; exact (MapKept.heap_alloc wc _).1
            have HXd : Hid (XBox wd wy.heap.size ⟨op, xa, xb⟩) := XBox.kp HX3.out ((Kp.of_below hbc).trans hkd) (by simp)
            have HSd : Hid (NBox wd (wy.heap.size + 1) ⟨si, sv, st⟩) := NBox.kp HN3.out ((Kp.of_below hbc).trans hkd) (by simp)
            have hnbl := hnb.lt
            have hnj : nb ≠ wc.heap.size := by omega
            have hz5 : w3.heap.size ≤ wc.heap.size := hbc.size
            have hz6 : wc.heap.size < wd.heap.size := NBox.lt HJd.out
            have Hwd : Hid (wd = wc.alloc (Obj.cells #[.bool true, .int .i64 nv, .int .i64 st] 117)) := hwd
            obtain ⟨n0, n1, n2, _⟩ := hnb.cells
            clear hcut hv1 hv2 Hputs hnv hkd hwd hnb hbc HX3 HN3 Hk3
            go_upto_region 18 with fail
            rw [← Hwd.out]
            clear Hwd n0 n1 n2
            generalize wc.heap.size = jn at *
            obtain ⟨a0, a1, a2, _⟩ := NBox.cells HSd.out
            have hsl := NBox.lt HSd.out
            obtain ⟨ok0, hok0⟩ : ∃ ok0, ok0 = (si && decide (t ≤ sv)) := ⟨_, rfl⟩
            have Hok0 : Hid (ok0 = (si && decide (t ≤ sv))) := hok0
            clear hok0
            go_cut [18] from 74 to 81 (fun a wx => Hid (a = .bool ok0 ∧ wx = wd))
            case first =>
              cases si with
              | false =>
                have e : ok0 = false := by rw [Hok0.out]; rfl
                subst e
                go_wp2
                go_meet
                exact ⟨rfl, rfl⟩
              | true =>
                by_cases h2 : t ≤ sv
                · have e : ok0 = true := by rw [Hok0.out]; simp [h2]
                  subst e
                  go_wp2
                  go_meet
                  exact ⟨rfl, rfl⟩
                · have e : ok0 = false := by rw [Hok0.out]; simp [h2]
                  subst e
                  go_wp2
                  go_meet
                  exact ⟨rfl, rfl⟩
            case rest =>
              obtain ⟨rfl, hw⟩ := hcut.out
              have hw := hw.symm
              subst hw
              clear hcut
              obtain ⟨e0, _, _, _⟩ := XBox.cells HXd.out
              have hxl := XBox.lt HXd.out
              obtain ⟨p0, p1, p2, pf⟩ := NBox.cells HNd.out
              have pf1 := pf 1
              have pf2 := pf 2
              have hpl := NBox.lt HNd.out
              obtain ⟨j0, j1, j2, jf⟩ := NBox.cells HJd.out
              have jf1 := jf 1
              have jf2 := jf 2
              clear pf jf
              obtain ⟨ok1, hok1⟩ : ∃ ok1, ok1 = (ok0 && (if op = 17 ∨ op = 16 then decide (sv = t) && decide (st = 0) else true)) := ⟨_, rfl⟩
              have Hok1 : Hid (ok1 = (ok0 && (if op = 17 ∨ op = 16 then decide (sv = t) && decide (st = 0) else true))) := hok1
              clear hok1
              go_upto_block 4 with fail
              go_cut [18] from 84 to 114 (fun a wx => Hid (a = .bool ok1 ∧ NBox wx nb ⟨true, nv, if op = 20 then st + 1 else if op = 21 then st - 1 else st⟩ ∧ NBox wx jn ⟨true, nv + (if op = 20 then 1 else 0), st⟩ ∧ Kp [nb, jn] wd wx))
              case first =>
                by_cases h20 : op = 20
                · subst h20
                  have e : ok1 = ok0 := by rw [Hok1.out]; simp
                  subst e
                  go_wp2
                  go_meet
                  exact ⟨rfl, (NBox.kp HNd.out (Kp.setCell (X := [jn]) wd ⟨jn, 1, none⟩ (by simp) _) (by simp; omega)).setT (st + 1), NBox.kp (NBox.setV HJd.out (nv + 1)) (Kp.setCell (X := [nb]) _ ⟨nb, 2, none⟩ (by simp) _) (by simp; omega), (Kp.setCell wd ⟨jn, 1, none⟩ (by simp) _).trans (Kp.setCell _ ⟨nb, 2, none⟩ (by simp) _)⟩
                · by_cases h21 : op = 21
                  · subst h21
                    have e : ok1 = ok0 := by rw [Hok1.out]; simp
                    subst e
                    go_wp2
                    go_meet
                    exact ⟨rfl, NBox.setT HNd.out (st - 1), by simpa using NBox.kp HJd.out (Kp.setCell (X := [nb]) wd ⟨nb, 2, none⟩ (by simp) _) (by simp; omega), Kp.setCell wd ⟨nb, 2, none⟩ (by simp) _⟩
                  · have HNx : Hid (NBox wd nb ⟨true, nv, if op = 20 then st + 1 else if op = 21 then st - 1 else st⟩) := by
                      unfold Hid
                      rw [if_neg h20, if_neg h21]
                      exact HNd.out
                    have HJx : Hid (NBox wd jn ⟨true, nv + (if op = 20 then 1 else 0), st⟩) := by
                      unfold Hid
                      rw [if_neg h20, Int.add_zero]
                      exact HJd.out
                    by_cases h17 : op = 17 ∨ op = 16
                    · have e1 : ok1 = (ok0 && (decide (sv = t) && decide (st = 0))) := by rw [Hok1.out, if_pos h17]
                      cases ok0 with
                      | false =>
                        have e : ok1 = false := by rw [e1]; rfl
                        subst e
                        clear e1 h20 h21 Hok1
                        rcases h17 with rfl | rfl
                        all_goals go_wp2
                        all_goals go_meet
                        all_goals exact ⟨rfl, HNx.out, HJx.out, Kp.refl _ _⟩
                      | true =>
                        by_cases h3 : sv = t
                        · by_cases h4 : st = 0
                          · have e : ok1 = true := by rw [e1]; simp [h3, h4]
                            subst e
                            have b3 : (sv == t) = true := by simpa using h3
                            have b4 : (st == 0) = true := by simpa using h4
                            clear e1 h20 h21 Hok1 h3 h4
                            rcases h17 with rfl | rfl
                            all_goals go_wp2
                            all_goals go_meet
                            all_goals exact ⟨rfl, HNx.out, HJx.out, Kp.refl _ _⟩
                          · have e : ok1 = false := by rw [e1]; simp [h4]
                            subst e
                            have b3 : (sv == t) = true := by simpa using h3
                            have b4 : (st == 0) = false := by simpa using h4
                            clear e1 h20 h21 Hok1 h3 h4
                            rcases h17 with rfl | rfl
                            all_goals go_wp2
                            all_goals go_meet
                            all_goals exact ⟨rfl, HNx.out, HJx.out, Kp.refl _ _⟩
                        · have e : ok1 = false := by rw [e1]; simp [h3]
                          subst e
                          have b3 : (sv == t) = false := by simpa using h3
                          clear e1 h20 h21 Hok1 h3
                          rcases h17 with rfl | rfl
                          all_goals go_wp2
                          all_goals go_meet
                          all_goals exact ⟨rfl, HNx.out, HJx.out, Kp.refl _ _⟩
                    · have e : ok1 = ok0 := by rw [Hok1.out, if_neg h17]; simp
                      subst e
                      have c20 : (op == 20) = false := by simpa using h20
                      have c21 : (op == 21) = false := by simpa using h21
                      have c17 : (op == 17) = false := by simp; omega
                      have c16 : (op == 16) = false := by simp; omega
                      clear Hok1 h17 h20 h21
                      go_wp2
                      go_meet
                      exact ⟨rfl, HNx.out, HJx.out, Kp.refl _ _⟩
              case rest =>
                obtain ⟨rfl, hq1, hq2, hq3⟩ := hcut.out
                clear hcut p0 p1 p2 pf1 pf2 hpl j0 j1 j2 jf1 jf2 e0 hxl a0 a1 a2 hsl
                obtain ⟨nt2, hnt2⟩ : ∃ nt2, nt2 = (if op = 20 then st + 1 else if op = 21 then st - 1 else st) := ⟨_, rfl⟩
                obtain ⟨jv, hjv⟩ : ∃ jv, jv = nv + (if op = 20 then (1 : Int) else 0) := ⟨_, rfl⟩
                obtain ⟨m, hm⟩ : ∃ m, m = (ok1 && (decide (0 ≤ nt2) && (decide (nv ≤ 5000) && decide (jv ≤ 5000)))) := ⟨_, rfl⟩
                have hnext : nextP fs ⟨op, xa, xb⟩ ⟨si, sv, st⟩ = ⟨true, nv, nt2⟩ := by
                  rw [hnt2, Hnv.out, ← Htk.out, ← Hpk.out]
                  rfl
                have hjump : jumpP fs ⟨op, xa, xb⟩ ⟨si, sv, st⟩ = ⟨true, jv, st⟩ := by
                  rw [hjv, Hnv.out, ← Htk.out, ← Hpk.out]
                  rfl
                have hmay : mayP fs ⟨op, xa, xb⟩ ⟨si, sv, st⟩ = m := by
                  rw [hm, Hok1.out, Hok0.out]
                  unfold mayP
                  rw [hnext, hjump, Htk.out]
                  simp only [Bool.and_assoc]
                have HflJ : Hid (flowJ fs ⟨op, xa, xb⟩ i L = if m = true then (if op = 18 ∨ op = 19 ∨ op = 20 then toldP L xa.toNat ⟨true, jv, st⟩ i else (true, L)) else (false, L)) := by
                  unfold Hid flowJ
                  rw [Hsx.out, hmay, hjump]
                have HflP : Hid (flowP fs ⟨op, xa, xb⟩ i L = if (flowJ fs ⟨op, xa, xb⟩ i L).1 = true then (if op = 18 ∨ op = 17 ∨ op = 16 ∨ op = 22 then flowJ fs ⟨op, xa, xb⟩ i L else toldP (flowJ fs ⟨op, xa, xb⟩ i L).2 (i + 1) ⟨true, nv, nt2⟩ i) else (false, (flowJ fs ⟨op, xa, xb⟩ i L).2)) := by
                  unfold Hid flowP
                  rw [Hsx.out, hnext]
                have HLok : Hid (LOk (flowP fs ⟨op, xa, xb⟩ i L).2 (i + 1)) := flow_ok r4 hiL
                have HLlen : Hid ((flowP fs ⟨op, xa, xb⟩ i L).2.length = f.ins.length + 1) := by unfold Hid; rw [flow_len]; exact r3
                rw [← hnt2] at hq1
                rw [← hjv] at hq2
                have Hm : Hid (m = (ok1 && (decide (0 ≤ nt2) && (decide (nv ≤ 5000) && decide (jv ≤ 5000))))) := hm
                have HNc : Hid (NBox wc nb ⟨true, nv, nt2⟩) := hq1
                have HJc : Hid (NBox wc jn ⟨true, jv, st⟩) := hq2
                have HXc : Hid (XBox wc wy.heap.size ⟨op, xa, xb⟩) := XBox.kp HXd.out hq3 (by simp; omega)
                have HKc : Hid (Kp [] wy wc) := Kp.then HKd.out hq3 (by simp; omega)
                have HSc : Hid (SBox wc wr.heap.size L) := SBox.kp r2 HKc.out (by simp)
                obtain ⟨p0, p1, p2, _⟩ := NBox.cells hq1
                have hpl := NBox.lt hq1
                obtain ⟨j0, j1, j2, _⟩ := NBox.cells hq2
                have hjl := NBox.lt hq2
                obtain ⟨e0, e1, e2, _⟩ := XBox.cells HXc.out
                have hel := XBox.lt HXc.out
                clear hnext hjump hmay hm hnt2 hjv hq1 hq2 hq3 Hok0 Hok1 Hnv Htk Hpk Hsx HNd HJd HXd HSd HKd
                go_upto_region 28 with fail
                go_cut [18] from 115 to 130 (fun a wx => Hid (a = .bool m ∧ wx = wc))
                case first =>
                  cases ok1 with
                  | false =>
                    have e : m = false := by rw [Hm.out]; rfl
                    subst e
                    go_wp2
                    go_meet
                    exact ⟨rfl, rfl⟩
                  | true =>
                    by_cases g1 : 0 ≤ nt2
                    · by_cases g2 : nv ≤ 5000
                      · by_cases g3 : jv ≤ 5000
                        · have e : m = true := by rw [Hm.out]; simp [g1, g2, g3]
                          subst e
                          go_wp2
                          go_meet
                          exact ⟨rfl, rfl⟩
                        · have e : m = false := by rw [Hm.out]; simp [g3]
                          subst e
                          go_wp2
                          go_meet
                          exact ⟨rfl, rfl⟩
                      · have e : m = false := by rw [Hm.out]; simp [g2]
                        subst e
                        go_wp2
                        go_meet
                        exact ⟨rfl, rfl⟩
                    · have e : m = false := by rw [Hm.out]; simp [g1]
                      subst e
                      go_wp2
                      go_meet
                      exact ⟨rfl, rfl⟩
                case rest =>
                  obtain ⟨rfl, hw⟩ := hcut.out
                  have hw := hw.symm
                  subst hw
                  clear hcut Hm
                  have hK1 : Kp [wr.heap.size] w1 wc := r5.trans (Kp.mono HKc.out (by simp))
                  have HK1 : Hid (Kp [wr.heap.size] w1 wc) := hK1
                  clear hK1
                  cases m with
                  | false =>
                    have hR : ((20 : Int), (i : Int)) = R := by
                      have := HRes.out
                      rw [HflP.out, HflJ.out] at this
                      simpa using this
                    go_wp2
                    refine bodyPost_ret (v := .tuple #[.int .i64 20, .int .i64 i]) (by simp [results, Tryd.results28, go_sem]) rfl ⟨?_, (Hcl.out _ HK1.out).2.2.2.2.2.2⟩
                    rw [← hR]
                  | true =>
                    by_cases hJ : op = 18 ∨ op = 19 ∨ op = 20
                    · obtain ⟨hx1, hx2⟩ := Hjmp.out hJ
                      obtain ⟨k, rfl⟩ : ∃ k : Nat, xa = k := ⟨xa.toNat, by omega⟩
                      have hfJ : flowJ fs ⟨op, k, xb⟩ i L = toldP L k ⟨true, jv, st⟩ i := by
                        rw [HflJ.out, if_pos rfl, if_pos hJ, Int.toNat_natCast]
                      have HfJ : Hid (flowJ fs ⟨op, k, xb⟩ i L = toldP L k ⟨true, jv, st⟩ i) := hfJ
                      clear hfJ HflJ
                      have hop3 : op = 18 ∨ op = 19 ∨ op = 20 := hJ
                      clear hJ
                      have Htd : Hid _ := told_of wc wr.heap.size (f.ins.length + 1) L r3 k (by omega) ⟨true, jv, st⟩ i HSc.out (by omega)
                      have hl1 := told_len L k ⟨true, jv, st⟩ i
                      generalize toldP L k ⟨true, jv, st⟩ i = tj at *
                      obtain ⟨b7, L7⟩ := tj
                      simp only at hl1
                      rcases hop3 with rfl | rfl | rfl
                      · go_wp2_with fail
                        refine Calls.mono Htd.out ?_
                        rintro e7 w7 ⟨rfl, hs7, hk7⟩
                        try simp only at hs7
                        have HS7 : Hid (SBox w7 wr.heap.size L7) := hs7
                        have HK7 : Hid (Kp [wr.heap.size] w1 w7) := HK1.out.trans hk7
                        have HX7 := XBox.kp HXc.out hk7 (by simp; omega)
                        obtain ⟨z0, z1, z2, _⟩ := HX7.cells
                        have hzl := HX7.lt
                        have HN7 := NBox.kp HNc.out hk7 (by simp; omega)
                        obtain ⟨y0, y1, y2, _⟩ := HN7.cells
                        have hyl := HN7.lt
                        clear Htd hs7 hk7 HX7 HN7 p0 p1 p2 j0 j1 j2 e0 e1 e2 hpl hjl hel
                        cases b7 with
                        | false =>
                          have hR : ((20 : Int), (i : Int)) = R := by
                            have := HRes.out
                            rw [HflP.out, HfJ.out] at this
                            simpa using this
                          go_wp2
                          refine bodyPost_ret (v := .tuple #[.int .i64 20, .int .i64 i]) (by simp [results, Tryd.results28, go_sem]) rfl ⟨?_, (Hcl.out _ HK7.out).2.2.2.2.2.2⟩
                          rw [← hR]
                        | true =>
                          have hfl : flowP fs ⟨18, k, xb⟩ i L = (true, L7) := by rw [HflP.out, HfJ.out]; simp
                          clear HfJ
                          have Q : Hid (flowFrom fs (f.ins.drop (i + 1)) (i + 1) L7 = R ∧ SBox w7 wr.heap.size L7 ∧ L7.length = f.ins.length + 1 ∧ LOk L7 (i + 1) ∧ Kp [wr.heap.size] w1 w7) := by
                            have q1 := HRes.out
                            have q2 := HLok.out
                            have q3 := HLlen.out
                            rw [hfl] at q1 q2 q3
                            exact ⟨q1, HS7.out, q3, q2, HK7.out⟩
                          clear HRes HLok HLlen hfl HflP Hjmp Hmk HSc HNc HJc HXc HKc
                          go_wp2
                          go_roundg (f.ins.length - (i + 1))
                          case measure => omega
                          case rel => exact ⟨i + 1, L7, by first | rfl | (congr 1; omega) | go_num, by omega, rfl, Q⟩
                      · go_wp2_with fail
                        refine Calls.mono Htd.out ?_
                        rintro e7 w7 ⟨rfl, hs7, hk7⟩
                        try simp only at hs7
                        have HS7 : Hid (SBox w7 wr.heap.size L7) := hs7
                        have HK7 : Hid (Kp [wr.heap.size] w1 w7) := HK1.out.trans hk7
                        have HX7 := XBox.kp HXc.out hk7 (by simp; omega)
                        obtain ⟨z0, z1, z2, _⟩ := HX7.cells
                        have hzl := HX7.lt
                        have HN7 := NBox.kp HNc.out hk7 (by simp; omega)
                        obtain ⟨y0, y1, y2, _⟩ := HN7.cells
                        have hyl := HN7.lt
                        clear Htd hs7 hk7 HX7 HN7 p0 p1 p2 j0 j1 j2 e0 e1 e2 hpl hjl hel
                        cases b7 with
                        | false =>
                          have hR : ((20 : Int), (i : Int)) = R := by
                            have := HRes.out
                            rw [HflP.out, HfJ.out] at this
                            simpa using this
                          go_wp2
                          refine bodyPost_ret (v := .tuple #[.int .i64 20, .int .i64 i]) (by simp [results, Tryd.results28, go_sem]) rfl ⟨?_, (Hcl.out _ HK7.out).2.2.2.2.2.2⟩
                          rw [← hR]
                        | true =>
                          have hfP : flowP fs ⟨19, k, xb⟩ i L = toldP L7 (i + 1) ⟨true, nv, nt2⟩ i := by rw [HflP.out, HfJ.out]; simp
                          have HfP : Hid (flowP fs ⟨19, k, xb⟩ i L = toldP L7 (i + 1) ⟨true, nv, nt2⟩ i) := hfP
                          clear hfP HfJ
                          go_wp2_with fail
                          refine (told_of w7 wr.heap.size (f.ins.length + 1) L7 (by omega) (i + 1) (by omega) ⟨true, nv, nt2⟩ i HS7.out (by omega)).mono ?_
                          rintro e8 w8 ⟨rfl, hs8, hk8⟩
                          generalize toldP L7 (i + 1) ⟨true, nv, nt2⟩ i = tl at *
                          obtain ⟨b8, L8⟩ := tl
                          try simp only at hs8
                          have HS8 : Hid (SBox w8 wr.heap.size L8) := hs8
                          have HK8 : Hid (Kp [wr.heap.size] w1 w8) := HK7.out.trans hk8
                          clear hs8 hk8 y0 y1 y2 z0 z1 z2 hzl hyl
                          cases b8 with
                          | false =>
                            have hR : ((20 : Int), (i : Int)) = R := by
                              have := HRes.out
                              rw [HfP.out] at this
                              simpa using this
                            go_wp2
                            refine bodyPost_ret (v := .tuple #[.int .i64 20, .int .i64 i]) (by simp [results, Tryd.results28, go_sem]) rfl ⟨?_, (Hcl.out _ HK8.out).2.2.2.2.2.2⟩
                            rw [← hR]
                          | true =>
                            have hfl := HfP.out
                            clear HfP
                            have Q : Hid (flowFrom fs (f.ins.drop (i + 1)) (i + 1) L8 = R ∧ SBox w8 wr.heap.size L8 ∧ L8.length = f.ins.length + 1 ∧ LOk L8 (i + 1) ∧ Kp [wr.heap.size] w1 w8) := by
                              have q1 := HRes.out
                              have q2 := HLok.out
                              have q3 := HLlen.out
                              rw [hfl] at q1 q2 q3
                              exact ⟨q1, HS8.out, q3, q2, HK8.out⟩
                            clear HRes HLok HLlen hfl HflP Hjmp Hmk HSc HNc HJc HXc HKc
                            go_wp2
                            go_roundg (f.ins.length - (i + 1))
                            case measure => omega
                            case rel => exact ⟨i + 1, L8, by first | rfl | (congr 1; omega) | go_num, by omega, rfl, Q⟩
                      · go_wp2_with fail
                        refine Calls.mono Htd.out ?_
                        rintro e7 w7 ⟨rfl, hs7, hk7⟩
                        try simp only at hs7
                        have HS7 : Hid (SBox w7 wr.heap.size L7) := hs7
                        have HK7 : Hid (Kp [wr.heap.size] w1 w7) := HK1.out.trans hk7
                        have HX7 := XBox.kp HXc.out hk7 (by simp; omega)
                        obtain ⟨z0, z1, z2, _⟩ := HX7.cells
                        have hzl := HX7.lt
                        have HN7 := NBox.kp HNc.out hk7 (by simp; omega)
                        obtain ⟨y0, y1, y2, _⟩ := HN7.cells
                        have hyl := HN7.lt
                        clear Htd hs7 hk7 HX7 HN7 p0 p1 p2 j0 j1 j2 e0 e1 e2 hpl hjl hel
                        cases b7 with
                        | false =>
                          have hR : ((20 : Int), (i : Int)) = R := by
                            have := HRes.out
                            rw [HflP.out, HfJ.out] at this
                            simpa using this
                          go_wp2
                          refine bodyPost_ret (v := .tuple #[.int .i64 20, .int .i64 i]) (by simp [results, Tryd.results28, go_sem]) rfl ⟨?_, (Hcl.out _ HK7.out).2.2.2.2.2.2⟩
                          rw [← hR]
                        | true =>
                          have hfP : flowP fs ⟨20, k, xb⟩ i L = toldP L7 (i + 1) ⟨true, nv, nt2⟩ i := by rw [HflP.out, HfJ.out]; simp
                          have HfP : Hid (flowP fs ⟨20, k, xb⟩ i L = toldP L7 (i + 1) ⟨true, nv, nt2⟩ i) := hfP
                          clear hfP HfJ
                          go_wp2_with fail
                          refine (told_of w7 wr.heap.size (f.ins.length + 1) L7 (by omega) (i + 1) (by omega) ⟨true, nv, nt2⟩ i HS7.out (by omega)).mono ?_
                          rintro e8 w8 ⟨rfl, hs8, hk8⟩
                          generalize toldP L7 (i + 1) ⟨true, nv, nt2⟩ i = tl at *
                          obtain ⟨b8, L8⟩ := tl
                          try simp only at hs8
                          have HS8 : Hid (SBox w8 wr.heap.size L8) := hs8
                          have HK8 : Hid (Kp [wr.heap.size] w1 w8) := HK7.out.trans hk8
                          clear hs8 hk8 y0 y1 y2 z0 z1 z2 hzl hyl
                          cases b8 with
                          | false =>
                            have hR : ((20 : Int), (i : Int)) = R := by
                              have := HRes.out
                              rw [HfP.out] at this
                              simpa using this
                            go_wp2
                            refine bodyPost_ret (v := .tuple #[.int .i64 20, .int .i64 i]) (by simp [results, Tryd.results28, go_sem]) rfl ⟨?_, (Hcl.out _ HK8.out).2.2.2.2.2.2⟩
                            rw [← hR]
                          | true =>
                            have hfl := HfP.out
                            clear HfP
                            have Q : Hid (flowFrom fs (f.ins.drop (i + 1)) (i + 1) L8 = R ∧ SBox w8 wr.heap.size L8 ∧ L8.length = f.ins.length + 1 ∧ LOk L8 (i + 1) ∧ Kp [wr.heap.size] w1 w8) := by
                              have q1 := HRes.out
                              have q2 := HLok.out
                              have q3 := HLlen.out
                              rw [hfl] at q1 q2 q3
                              exact ⟨q1, HS8.out, q3, q2, HK8.out⟩
                            clear HRes HLok HLlen hfl HflP Hjmp Hmk HSc HNc HJc HXc HKc
                            go_wp2
                            go_roundg (f.ins.length - (i + 1))
                            case measure => omega
                            case rel => exact ⟨i + 1, L8, by first | rfl | (congr 1; omega) | go_num, by omega, rfl, Q⟩
                    · have hfJ : flowJ fs ⟨op, xa, xb⟩ i L = (true, L) := by rw [HflJ.out, if_pos rfl, if_neg hJ]
                      have c18 : (op == 18) = false := by simp; omega
                      have c19 : (op == 19) = false := by simp; omega
                      have c20 : (op == 20) = false := by simp; omega
                      have n18 : (op != 18) = true := by simp; omega
                      by_cases hN : op = 17 ∨ op = 16 ∨ op = 22
                      · have hfl : flowP fs ⟨op, xa, xb⟩ i L = (true, L) := by rw [HflP.out, hfJ, if_pos rfl, if_pos (by omega)]
                        clear hfJ hJ c18 c19 c20 n18
                        rcases hN with rfl | rfl | rfl
                        · clear p0 p1 p2 j0 j1 j2 hpl hjl
                          have Q : Hid (flowFrom fs (f.ins.drop (i + 1)) (i + 1) L = R ∧ SBox wc wr.heap.size L ∧ L.length = f.ins.length + 1 ∧ LOk L (i + 1) ∧ Kp [wr.heap.size] w1 wc) := by
                            have q1 := HRes.out
                            have q2 := HLok.out
                            have q3 := HLlen.out
                            rw [hfl] at q1 q2 q3
                            exact ⟨q1, HSc.out, q3, q2, HK1.out⟩
                          clear HRes HLok HLlen hfl HflP HflJ Hjmp Hmk HSc HNc HJc HXc HKc
                          go_wp2
                          go_roundg (f.ins.length - (i + 1))
                          case measure => omega
                          case rel => exact ⟨i + 1, L, by first | rfl | (congr 1; omega) | go_num, by omega, rfl, Q⟩
                        · clear p0 p1 p2 j0 j1 j2 hpl hjl
                          have Q : Hid (flowFrom fs (f.ins.drop (i + 1)) (i + 1) L = R ∧ SBox wc wr.heap.size L ∧ L.length = f.ins.length + 1 ∧ LOk L (i + 1) ∧ Kp [wr.heap.size] w1 wc) := by
                            have q1 := HRes.out
                            have q2 := HLok.out
                            have q3 := HLlen.out
                            rw [hfl] at q1 q2 q3
                            exact ⟨q1, HSc.out, q3, q2, HK1.out⟩
                          clear HRes HLok HLlen hfl HflP HflJ Hjmp Hmk HSc HNc HJc HXc HKc
                          go_wp2
                          go_roundg (f.ins.length - (i + 1))
                          case measure => omega
                          case rel => exact ⟨i + 1, L, by first | rfl | (congr 1; omega) | go_num, by omega, rfl, Q⟩
                        · clear p0 p1 p2 j0 j1 j2 hpl hjl
                          have Q : Hid (flowFrom fs (f.ins.drop (i + 1)) (i + 1) L = R ∧ SBox wc wr.heap.size L ∧ L.length = f.ins.length + 1 ∧ LOk L (i + 1) ∧ Kp [wr.heap.size] w1 wc) := by
                            have q1 := HRes.out
                            have q2 := HLok.out
                            have q3 := HLlen.out
                            rw [hfl] at q1 q2 q3
                            exact ⟨q1, HSc.out, q3, q2, HK1.out⟩
                          clear HRes HLok HLlen hfl HflP HflJ Hjmp Hmk HSc HNc HJc HXc HKc
                          go_wp2
                          go_roundg (f.ins.length - (i + 1))
                          case measure => omega
                          case rel => exact ⟨i + 1, L, by first | rfl | (congr 1; omega) | go_num, by omega, rfl, Q⟩
                      · have hfP : flowP fs ⟨op, xa, xb⟩ i L = toldP L (i + 1) ⟨true, nv, nt2⟩ i := by rw [HflP.out, hfJ, if_pos rfl, if_neg (by omega)]
                        have HfP : Hid (flowP fs ⟨op, xa, xb⟩ i L = toldP L (i + 1) ⟨true, nv, nt2⟩ i) := hfP
                        have n17 : (op != 17) = true := by simp; omega
                        have n16 : (op != 16) = true := by simp; omega
                        have n22 : (op != 22) = true := by simp; omega
                        clear hfJ hJ hN hfP
                        go_wp2_with fail
                        refine (told_of wc wr.heap.size (f.ins.length + 1) L r3 (i + 1) (by omega) ⟨true, nv, nt2⟩ i HSc.out (by omega)).mono ?_
                        rintro e8 w8 ⟨rfl, hs8, hk8⟩
                        generalize toldP L (i + 1) ⟨true, nv, nt2⟩ i = tl at *
                        obtain ⟨b8, L8⟩ := tl
                        try simp only at hs8
                        have HS8 : Hid (SBox w8 wr.heap.size L8) := hs8
                        have HK8 : Hid (Kp [wr.heap.size] w1 w8) := HK1.out.trans hk8
                        clear hs8 hk8 p0 p1 p2 j0 j1 j2 e0 e1 e2 hpl hjl hel
                        cases b8 with
                        | false =>
                          have hR : ((20 : Int), (i : Int)) = R := by
                            have := HRes.out
                            rw [HfP.out] at this
                            simpa using this
                          go_wp2
                          refine bodyPost_ret (v := .tuple #[.int .i64 20, .int .i64 i]) (by simp [results, Tryd.results28, go_sem]) rfl ⟨?_, (Hcl.out _ HK8.out).2.2.2.2.2.2⟩
                          rw [← hR]
                        | true =>
                          have hfl := HfP.out
                          clear HfP
                          have Q : Hid (flowFrom fs (f.ins.drop (i + 1)) (i + 1) L8 = R ∧ SBox w8 wr.heap.size L8 ∧ L8.length = f.ins.length + 1 ∧ LOk L8 (i + 1) ∧ Kp [wr.heap.size] w1 w8) := by
                            have q1 := HRes.out
                            have q2 := HLok.out
                            have q3 := HLlen.out
                            rw [hfl] at q1 q2 q3
                            exact ⟨q1, HS8.out, q3, q2, HK8.out⟩
                          clear HRes HLok HLlen hfl HflP HflJ Hjmp Hmk HSc HNc HJc HXc HKc
                          go_wp2
                          go_roundg (f.ins.length - (i + 1))
                          case measure => omega
                          case rel => exact ⟨i + 1, L8, by first | rfl | (congr 1; omega) | go_num, by omega, rfl, Q⟩
        · have hi' : ¬ (i : Int) < f.ins.length := by omega
          obtain rfl : i = f.ins.length := by omega
          obtain ⟨r1, r2, r3, r4, r5⟩ := HR.out
          have hiL : f.ins.length < L.length := by omega
          have hgd : (L[f.ins.length]?).getD default = L[f.ins.length]'hiL := by simp [hiL]
          obtain ⟨s0, s1, s2, _⟩ := r2.cells f.ins.length hiL
          have hlb := r2.lt
          rw [List.drop_eq_nil_of_le (Nat.le_refl _), flowFrom, hgd] at r1
          have HK1 : Hid (Kp [wr.heap.size] w1 wy) := r5
          generalize (L[f.ins.length]'hiL) = sn at *
          obtain ⟨si, sv, st⟩ := sn
          simp only at *
          clear hgd HR r2 r4 r5 hm0
          cases si with
          | false =>
            have hR : ((0 : Int), (0 : Int)) = R := by simpa using r1
            clear r1
            go_wp2
            refine bodyPost_ret (v := .tuple #[.int .i64 0, .int .i64 0]) (by simp [results, Tryd.results28, go_sem]) rfl ⟨?_, (Hcl.out _ HK1.out).2.2.2.2.2.2⟩
            rw [← hR]
          | true =>
            have hR : ((20 : Int), (f.ins.length : Int)) = R := by simpa using r1
            clear r1
            go_wp2
            refine bodyPost_ret (v := .tuple #[.int .i64 20, .int .i64 f.ins.length]) (by simp [results, Tryd.results28, go_sem]) rfl ⟨?_, (Hcl.out _ HK1.out).2.2.2.2.2.2⟩
            rw [← hR]
end
end Go.Proofs.YtlekoldicnfeeaaDoor
