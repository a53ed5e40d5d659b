/-
  The program's writer: a function (fun), a code (code).
-/
import Derived.Test.YtimdjcffmajmnaaDoorE6
namespace Go.Proofs.YtimdjcffmajmnaaDoor
open Go.RowKit Go.Deep
theorem FW.onto {wb w w' : World} {wp : Nat} (h : FW wb.heap.size wp w w') (hb : Below wb.heap.size wb w) : Below wb.heap.size wb w' := hb.trans (h.below hb.size)
section
set_option maxHeartbeats 8000000
set_option maxRecDepth 100000
theorem wfun_any (wb : World) (wp : Nat) (w : World) (l : List UInt8) (f : Fn) (q : Option Addr) (qc : Nat) (hx : f.ok = true) (hS : ShIn wb) (hI : InsIn wb q f.ins) (hb : Below wb.heap.size wb w) (h : Wr wb.heap.size wp w l) (hwp : wb.heap.size ≤ wp) (hpl : wp < w.heap.size) (hl : l.length + f.bytes.length ≤ 1000000000) :
    Calls Tryd.prog 33 #[.pointer (some ⟨wp, 0, none⟩), .agg #[.int .i64 f.free, .int .i64 f.slots, .slice q f.ins.length qc]] w fun e w' => e = .returned (.tuple #[]) ∧ Wr wb.heap.size wp w' (l ++ f.bytes) ∧ FW wb.heap.size wp w w' := by
  unfold Fn.ok at hx
  simp only [Bool.and_eq_true] at hx
  have HAll : Hid (f.ins.all In.ok = true) := hx.2.2.2
  obtain ⟨R, hR⟩ : ∃ R, R = l ++ f.bytes := ⟨_, rfl⟩
  rw [← hR]
  rw [Fn.bytes_len] at hl
  unfold Fn.bytes at hR
  have F0 : FW wb.heap.size wp w (w.alloc (Obj.cells #[Value.int IntKind.i64 f.free, Value.int IntKind.i64 f.slots, Value.slice q f.ins.length qc] 50)) := (FW.refl wb.heap.size wp w).alloc _
  have hx0 : FBox (w.alloc (Obj.cells #[Value.int IntKind.i64 f.free, Value.int IntKind.i64 f.slots, Value.slice q f.ins.length qc] 50)) w.heap.size f q qc := (MapKept.heap_alloc w _).1
  have hne : w.heap.size ≠ wp := by omega
  have Hne : Hid _ := hne
  have h0 := h.alloc (Obj.cells #[Value.int IntKind.i64 f.free, Value.int IntKind.i64 f.slots, Value.slice q f.ins.length qc] 50)
  have hnl := hI.len
  have Hc : Hid _ := wtwo_any wb.heap.size wp _ l f.free h0 hwp (by omega)
  have HF0 : Hid _ := F0
  have HS : Hid _ := hS
  have HI : Hid _ := hI
  have Hx0 : Hid _ := hx0
  have HR : Hid _ := hR
  have Hb : Hid _ := hb
  have Hpl : Hid _ := hpl
  clear F0 hx0 hne h0 hR hS h hI hx hb hpl
  go_enter Tryd.func33, Tryd.ntmps33
  go_upto_region 1 with fail
  generalize w.alloc (Obj.cells #[Value.int IntKind.i64 f.free, Value.int IntKind.i64 f.slots, Value.slice q f.ins.length qc] 50) = w0 at *
  obtain ⟨x0, x1, x2, x3⟩ := FBox.cells Hx0.out
  go_wp2_with fail
  refine Calls.mono Hc.out ?_
  rintro e1 w1 ⟨rfl, W1, f1⟩
  have Hx1 : Hid (FBox w1 w.heap.size f q qc) := f1.box Hx0.out (by decide) Hne.out
  have HF1 : Hid _ := FW.trans HF0.out f1
  clear x0 x1 x2 x3 Hc Hx0 HF0 f1
  obtain ⟨x0, x1, x2, x3⟩ := FBox.cells Hx1.out
  have Hc : Hid _ := wtwo_any wb.heap.size wp w1 _ f.slots W1 hwp (by simp only [List.length_append, big_len]; omega)
  clear W1
  go_wp2_with fail
  refine Calls.mono Hc.out ?_
  rintro e1 w2 ⟨rfl, W1, f1⟩
  have Hx2 : Hid (FBox w2 w.heap.size f q qc) := f1.box Hx1.out (by decide) Hne.out
  have HF2 : Hid _ := FW.trans HF1.out f1
  clear x0 x1 x2 x3 Hc Hx1 HF1 f1
  obtain ⟨x0, x1, x2, x3⟩ := FBox.cells Hx2.out
  have Hc : Hid _ := wtwo_any wb.heap.size wp w2 _ f.ins.length W1 hwp (by simp only [List.length_append, big_len]; omega)
  clear W1
  go_wp2_with fail
  refine Calls.mono Hc.out ?_
  rintro e1 w3 ⟨rfl, W1, f1⟩
  have Hx3 : Hid (FBox w3 w.heap.size f q qc) := f1.box Hx2.out (by decide) Hne.out
  have HF3 : Hid _ := FW.trans HF2.out f1
  clear x0 x1 x2 x3 Hc Hx2 HF2 f1
  obtain ⟨x0, x1, x2, x3⟩ := FBox.cells Hx3.out
  have Q0 : Hid (∃ l2 : List UInt8, l2 ++ (f.ins.drop 0).flatMap In.bytes = R ∧ l2.length + ((f.ins.drop 0).flatMap In.bytes).length ≤ 1000000000 ∧ (f.ins.drop 0).all In.ok = true ∧ Wr wb.heap.size wp w3 l2 ∧ FW wb.heap.size wp w w3) :=
    ⟨_, by rw [HR.out]; simp only [List.append_assoc, List.drop_zero], by simp only [List.length_append, big_len, List.drop_zero]; omega, HAll.out, W1, HF3.out⟩
  clear W1
  go_wp2_with fail
  go_loopg [22] f.ins.length (fun g iv wr => ∃ i : Nat, iv = .int .i64 i ∧ i ≤ f.ins.length ∧ g = f.ins.length - i ∧ Hid (∃ l2 : List UInt8, l2 ++ (f.ins.drop i).flatMap In.bytes = R ∧ l2.length + ((f.ins.drop i).flatMap In.bytes).length ≤ 1000000000 ∧ (f.ins.drop i).all In.ok = true ∧ Wr wb.heap.size wp wr l2 ∧ FW wb.heap.size wp w wr))
  case atStart => exact ⟨0, rfl, by omega, by omega, Q0⟩
  case round =>
    clear Q0 x0 x1 x2 x3
    obtain ⟨i, rfl, hi1, rfl, HQ⟩ := hrel
    obtain ⟨l2, r1, r2, r3, r4, r5⟩ := HQ.out
    clear HQ
    by_cases hi : i < f.ins.length
    · have hi' : (i : Int) < f.ins.length := by omega
      obtain ⟨b, o, hq, hbw, y0, y1, y2⟩ := HI.out.get i hi
      subst hq
      rw [drop_all In.ok f.ins i hi, Bool.and_eq_true] at r3
      rw [drop_flat In.bytes f.ins i hi] at r1 r2
      generalize f.ins[i]'hi = x at *
      obtain ⟨kk, hkk, hk26⟩ := isOp_nat (In.ok_op r3.1)
      obtain ⟨op, a, b'⟩ := x
      simp only at hkk
      subst hkk
      have hbe := r5.onto Hb.out
      have v0 : wr.cell? ⟨b, o + i * 3, none⟩ = some (.int .i64 (kk : Int)) := (hbe.cell (p := ⟨b, o + i * 3, none⟩) hbw).trans y0
      have v1 : wr.cell? ⟨b, o + i * 3 + 1, none⟩ = some (.int .i64 a) := (hbe.cell (p := ⟨b, o + i * 3 + 1, none⟩) hbw).trans y1
      have v2 : wr.cell? ⟨b, o + i * 3 + 2, none⟩ = some (.int .i64 b') := (hbe.cell (p := ⟨b, o + i * 3 + 2, none⟩) hbw).trans y2
      have hbr : b < wr.heap.size := Nat.lt_of_lt_of_le hbw hbe.size
      have hxb : IBox (wr.alloc (Obj.cells #[Value.int IntKind.i64 (kk : Int), Value.int IntKind.i64 a, Value.int IntKind.i64 b'] 47)) wr.heap.size ⟨kk, a, b'⟩ := (MapKept.heap_alloc wr _).1
      have hF := r5.alloc (Obj.cells #[Value.int IntKind.i64 (kk : Int), Value.int IntKind.i64 a, Value.int IntKind.i64 b'] 47)
      have Hc : Hid _ := wins_any wb.heap.size wp (wr.alloc (Obj.cells #[Value.int IntKind.i64 (kk : Int), Value.int IntKind.i64 a, Value.int IntKind.i64 b'] 47)) l2 kk hk26 a b' r3.1 (ShIn.below HS.out (hF.onto Hb.out)) (r4.alloc _) hwp (by have := Hpl.out; have := r5.size; simp; omega) HS.out.lt (by rw [List.length_append] at r2; omega)
      have HFa : Hid _ := hF
      have Hxb : Hid _ := hxb
      have Q : Hid ((l2 ++ In.bytes ⟨kk, a, b'⟩) ++ (f.ins.drop (i + 1)).flatMap In.bytes = R ∧ (l2 ++ In.bytes ⟨kk, a, b'⟩).length + ((f.ins.drop (i + 1)).flatMap In.bytes).length ≤ 1000000000 ∧ (f.ins.drop (i + 1)).all In.ok = true) := ⟨by rw [← r1, List.append_assoc], by rw [List.length_append] at r2 ⊢; omega, r3.2⟩
      clear r1 r2 r3 r4 r5 hbe hbw y0 y1 y2 hxb hF
      go_upto_region 7 with fail
      clear v0 v1 v2 hbr
      generalize wr.alloc (Obj.cells #[Value.int IntKind.i64 (kk : Int), Value.int IntKind.i64 a, Value.int IntKind.i64 b'] 47) = w4 at *
      obtain ⟨x0, x1, x2, x3⟩ := IBox.cells Hxb.out
      simp only at x0 x1 x2
      go_wp2_with fail
      refine Calls.mono Hc.out ?_
      rintro e1 w5 ⟨rfl, W5, f5⟩
      have Q5 : Hid (∃ l2 : List UInt8, l2 ++ (f.ins.drop (i + 1)).flatMap In.bytes = R ∧ l2.length + ((f.ins.drop (i + 1)).flatMap In.bytes).length ≤ 1000000000 ∧ (f.ins.drop (i + 1)).all In.ok = true ∧ Wr wb.heap.size wp w5 l2 ∧ FW wb.heap.size wp w w5) := ⟨_, Q.out.1, Q.out.2.1, Q.out.2.2, W5, FW.trans HFa.out f5⟩
      clear x0 x1 x2 x3 Hc Q W5 f5 Hxb HFa
      go_wp2
      go_roundg (f.ins.length - (i + 1))
      case measure => omega
      case rel => exact ⟨i + 1, by first | rfl | (congr 1; omega) | go_num, by omega, rfl, Q5⟩
    · have hi' : ¬ (i : Int) < f.ins.length := by omega
      rw [drop_done f.ins i hi, List.flatMap_nil, List.append_nil] at r1
      have Q : Hid (Wr wb.heap.size wp wr R ∧ FW wb.heap.size wp w wr) := ⟨r1 ▸ r4, r5⟩
      clear r1 r2 r3 r4 r5
      go_wp2
      go_end0
      exact ⟨rfl, Q.out⟩
end
end Go.Proofs.YtimdjcffmajmnaaDoor
