/-
  The program's Check: a function looked at (check).
-/
import Derived.Test.YtlekoldicnfeeaaDoorK5
namespace Go.Proofs.YtlekoldicnfeeaaDoor
open Go.RowKit Go.Deep
section
set_option maxHeartbeats 8000000
set_option maxRecDepth 100000
theorem checkC_any (w : World) (p : Option Addr) (nt cap : Nat) (p' : Option Addr) (cap' : Nat) (fs : List Fn) (num : Nat) (hnum : num < fs.length) (hF : FunsIn w p' fs) (hS : ShIn w) (hG : SgIn w) (hfs : ∀ g ∈ fs, g.ok = true) (hn : nt ≤ 65535 ∧ fs.length ≤ 65535) :
    Calls Tryd.prog 27 #[.agg #[.slice p nt cap, .slice p' fs.length cap'], .int .i64 num] w fun e w' => e = .returned (.tuple #[.int .i64 (funP nt fs (fs[num]'hnum) (decide (num = 0))).2, .int .i64 (funP nt fs (fs[num]'hnum) (decide (num = 0))).1]) ∧ Below w.heap.size w w' := by
  obtain ⟨n1, n2⟩ := hn
  have hb1 : Below w.heap.size w (w.alloc (.cells #[.slice p nt cap, .slice p' fs.length cap'] 25)) := (Below.refl w.heap.size w).alloc (Nat.le_refl _) _
  have hC : CBox (w.alloc (.cells #[.slice p nt cap, .slice p' fs.length cap'] 25)) w.heap.size p nt cap p' fs.length cap' := (MapKept.heap_alloc w _).1
  have hokf := hfs _ (List.getElem_mem hnum)
  have hlen : (fs[num]'hnum).ins.length ≤ 65535 := by
    have := two_range (Fn.ok_parts hokf).2.2.1
    omega
  have Hop : Hid (∀ (wx : World), Below w.heap.size w wx → ∀ x : In, x ∈ (fs[num]'hnum).ins → Calls Tryd.prog 46 #[.agg #[.slice p nt cap, .slice p' fs.length cap'], .int .i64 num, .agg #[.int .i64 x.op, .int .i64 x.a, .int .i64 x.b]] wx fun e w' => e = .returned (.int .i64 (operandsP nt fs.length (fs[num]'hnum) x (decide (num = 0)))) ∧ Below wx.heap.size wx w') := fun wx hx x hxm => by
    have hxk := (Fn.ok_parts hokf).2.2.2 x hxm
    obtain ⟨k, hk1, hk2⟩ := isOp_nat (In.ok_op hxk)
    obtain ⟨op, a, c⟩ := x
    simp only at hk1
    subst hk1
    exact operC_any wx p nt cap p' cap' fs num hnum k hk2 a c hxk (hF.below hx) ⟨by omega, by omega⟩
  have Hfl : Hid (∀ (wx : World) (q : Option Addr) (qc : Nat), Below w.heap.size w wx → InsIn wx q (fs[num]'hnum).ins → (∀ x ∈ (fs[num]'hnum).ins, operandsP nt fs.length (fs[num]'hnum) x (decide (num = 0)) = 0) → Calls Tryd.prog 47 #[.agg #[.slice p nt cap, .slice p' fs.length cap'], .slice q (fs[num]'hnum).ins.length qc] wx fun e w' => FlowsPost wx (flowFrom fs (fs[num]'hnum).ins 0 (startL (fs[num]'hnum).ins.length)) e w') := fun wx q qc hx hi ho =>
    flows_any wx p nt cap p' cap' fs (fs[num]'hnum) (decide (num = 0)) q qc hi (hF.below hx) (hS.below hx) (hG.below hx) hfs hokf ho
  obtain ⟨fb, fo, q, qc, rfl, hbw, hfc, hIn⟩ := (hF.below hb1).get num hnum
  have hnum' : (num : Int) < fs.length := by omega
  obtain ⟨R, hR⟩ : ∃ R, R = funP nt fs (fs[num]'hnum) (decide (num = 0)) := ⟨_, rfl⟩
  rw [← hR]
  unfold funP at hR
  have HR : Hid _ := hR
  generalize decide (num = 0) = main at *
  generalize fs[num]'hnum = f at *
  obtain ⟨y0, y1, y2⟩ := hfc
  have Hb1 : Hid (Below _ _ _) := hb1
  have HC : Hid (CBox _ _ _ _ _ _ _ _) := hC
  have HIn : Hid (InsIn _ q f.ins) := hIn
  clear hb1 hC hokf hF hS hG hfs hR hIn
  go_enter Tryd.func27, Tryd.ntmps27
  go_upto_region 1 with fail
  generalize w.alloc (.cells #[.slice p nt cap, .slice (some ⟨fb, fo, none⟩) fs.length cap'] 25) = w0 at *
  obtain ⟨x0, x1, x2⟩ := CBox.cells HC.out
  have hb2 : Below w0.heap.size w0 (w0.alloc (.cells #[.int .i64 f.free, .int .i64 f.slots, .slice q f.ins.length qc] 50)) := (Below.refl _ _).alloc (Nat.le_refl _) _
  have Hb2 : Hid (Below _ _ _) := hb2
  have HFb : Hid (FBox _ w0.heap.size f q qc) := (MapKept.heap_alloc w0 _).1
  clear hb2
  go_upto_region 2 with fail
  clear x0 x1 x2 y0 y1 y2 hbw
  generalize w0.alloc (.cells #[.int .i64 f.free, .int .i64 f.slots, .slice q f.ins.length qc] 50) = w1 at *
  have HB1 : Hid (Below w.heap.size w w1) := Below.trans Hb1.out (Below.mono Hb2.out (Below.size Hb1.out))
  have HC1 : Hid (CBox w1 w.heap.size p nt cap (some ⟨fb, fo, none⟩) fs.length cap') := CBox.below HC.out Hb2.out
  have HI1 : Hid (InsIn w1 q f.ins) := InsIn.below HIn.out Hb2.out
  clear Hb1 Hb2 HC HIn
  generalize w0.heap.size = fbx at *
  obtain ⟨z0, z1, z2, z3⟩ := FBox.cells HFb.out
  have hfl' : (f.ins.length : Int) ≤ 65535 := by omega
  go_wp2_with fail
  go_loopg [20] f.ins.length (fun g iv wr => ∃ i : Nat, iv = .int .i64 i ∧ i ≤ f.ins.length ∧ g = f.ins.length - i ∧ Hid (operFrom nt fs.length f main (f.ins.drop i) i = operFrom nt fs.length f main f.ins 0 ∧ Below w1.heap.size w1 wr))
  case atStart => exact ⟨0, rfl, by omega, by omega, rfl, Below.refl _ _⟩
  case round =>
    clear z0 z1 z2 z3
    obtain ⟨i, rfl, hi1, rfl, HQ⟩ := hrel
    obtain ⟨r1, r2⟩ := HQ.out
    clear HQ
    by_cases hi : i < f.ins.length
    · have hi' : (i : Int) < f.ins.length := by omega
      obtain ⟨bb, o, hq, hbw, y0, y1, y2⟩ := HI1.out.get i hi
      subst hq
      rw [drop_oper nt fs.length f main f.ins i hi] at r1
      have hxm := List.getElem_mem hi
      generalize f.ins[i]'hi = x at *
      have v0 : wr.cell? ⟨bb, o + i * 3, none⟩ = some (.int .i64 x.op) := (r2.cell (p := ⟨bb, o + i * 3, none⟩) hbw).trans y0
      have v1 : wr.cell? ⟨bb, o + i * 3 + 1, none⟩ = some (.int .i64 x.a) := (r2.cell (p := ⟨bb, o + i * 3 + 1, none⟩) hbw).trans y1
      have v2 : wr.cell? ⟨bb, o + i * 3 + 2, none⟩ = some (.int .i64 x.b) := (r2.cell (p := ⟨bb, o + i * 3 + 2, none⟩) hbw).trans y2
      have hbr : bb < wr.heap.size := Nat.lt_of_lt_of_le hbw r2.size
      have hxb : IBox (wr.alloc (Obj.cells #[Value.int IntKind.i64 x.op, Value.int IntKind.i64 x.a, Value.int IntKind.i64 x.b] 47)) wr.heap.size x := (MapKept.heap_alloc wr _).1
      have hk4 : Below w1.heap.size w1 (wr.alloc (Obj.cells #[Value.int IntKind.i64 x.op, Value.int IntKind.i64 x.a, Value.int IntKind.i64 x.b] 47)) := r2.alloc r2.size _
      have Hc : Hid _ := Hop.out _ (Below.then HB1.out hk4 (Nat.le_refl _)) x hxm
      have Hxb : Hid (IBox _ _ x) := hxb
      have Hk4 : Hid (Below _ _ _) := hk4
      have Hr1 : Hid _ := r1
      clear r1 r2 y0 y1 y2 hbw hxb hk4 hxm
      go_upto_region 5 with fail
      clear v0 v1 v2 hbr
      generalize wr.alloc (Obj.cells #[Value.int IntKind.i64 x.op, Value.int IntKind.i64 x.a, Value.int IntKind.i64 x.b] 47) = w4 at *
      obtain ⟨x0, x1, x2, x3⟩ := IBox.cells Hxb.out
      obtain ⟨c0, c1, c2⟩ := CBox.cells (CBox.below HC1.out Hk4.out)
      go_wp2_with fail
      refine Calls.mono Hc.out ?_
      rintro e5 w5 ⟨rfl, hb5⟩
      have Hk5 : Hid (Below w1.heap.size w1 w5) := Below.then Hk4.out hb5 (Nat.le_refl _)
      clear x0 x1 x2 x3 c0 c1 c2 hb5 Hk4 Hc Hxb
      generalize operandsP nt fs.length f x main = ek at *
      by_cases hek : ek = 0
      · have hek' : (ek != 0) = false := by simpa using hek
        have Q : Hid (operFrom nt fs.length f main (f.ins.drop (i + 1)) (i + 1) = operFrom nt fs.length f main f.ins 0 ∧ Below w1.heap.size w1 w5) := ⟨by have := Hr1.out; rw [if_pos hek] at this; exact this, Hk5.out⟩
        clear hek Hr1 Hk5
        go_wp2
        go_roundg (f.ins.length - (i + 1))
        case measure => omega
        case rel => exact ⟨i + 1, by first | rfl | (congr 1; omega) | go_num, by omega, rfl, Q⟩
      · have hek' : (ek != 0) = true := by simpa using hek
        have hR2 : R = (ek, (i : Int)) := by
          have := Hr1.out
          rw [if_neg hek] at this
          rw [HR.out, ← this]
        subst hR2
        have HB5 : Hid (Below w.heap.size w w5) := Below.trans HB1.out (Below.mono Hk5.out (Below.size HB1.out))
        clear hek Hr1 Hk5 HR
        go_wp2
        exact bodyPost_ret (v := .tuple #[.int .i64 i, .int .i64 ek]) (by simp [results, Tryd.results27, go_sem]) rfl ⟨rfl, HB5.out⟩
    · have hi' : ¬ (i : Int) < f.ins.length := by omega
      rw [drop_done f.ins i hi, operFrom] at r1
      have hR2 : R = flowFrom fs f.ins 0 (startL f.ins.length) := by rw [HR.out, ← r1]
      have hall := operFrom_none nt fs.length f main f.ins 0 r1.symm
      obtain ⟨z0, z1, z2, z3⟩ := FBox.cells (FBox.below HFb.out r2)
      obtain ⟨c0, c1, c2⟩ := CBox.cells (CBox.below HC1.out r2)
      have hbr : Below w.heap.size w wr := Below.trans HB1.out (Below.mono r2 (Below.size HB1.out))
      have Hc : Hid _ := Hfl.out wr q qc hbr (InsIn.below HI1.out r2) hall
      rw [← hR2] at Hc
      have Hbr : Hid (Below w.heap.size w wr) := hbr
      clear r1 r2 hall hbr hR2 HR
      go_wp2_with fail
      refine Calls.mono Hc.out ?_
      rintro e6 w6 ⟨pl, ok, rfl, h1, h2, hb6⟩
      have HB6 : Hid (Below w.heap.size w w6) := Below.then Hbr.out hb6 (Nat.le_refl _)
      clear z0 z1 z2 z3 c0 c1 c2 Hc hb6
      cases ok
      · have hR3 := h2 rfl
        subst hR3
        clear h1 h2
        go_wp2
        exact bodyPost_ret (v := .tuple #[.int .i64 pl, .int .i64 20]) (by simp [results, Tryd.results27, go_sem]) rfl ⟨rfl, HB6.out⟩
      · have hR3 := h1 rfl
        subst hR3
        clear h1 h2
        go_wp2
        exact bodyPost_ret (v := .tuple #[.int .i64 0, .int .i64 0]) (by simp [results, Tryd.results27, go_sem]) rfl ⟨rfl, HB6.out⟩
end
end Go.Proofs.YtlekoldicnfeeaaDoor
