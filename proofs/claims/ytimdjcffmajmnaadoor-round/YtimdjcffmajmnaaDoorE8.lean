/-
  The program's writer: a code (code); Encode whole.
-/
import Derived.Test.YtimdjcffmajmnaaDoorE7
namespace Go.Proofs.YtimdjcffmajmnaaDoor
open Go.RowKit Go.Deep
theorem CBox.fw {B wp : Nat} {w w' : World} {b : Nat} {p : Option Addr} {n cap : Nat} {p' : Option Addr} {n' cap' : Nat} (h : CBox w b p n cap p' n' cap') (hf : FW B wp w w') (hb : b ≠ wp) : CBox w' b p n cap p' n' cap' := hf.box h (by decide) hb
section
set_option maxHeartbeats 8000000
set_option maxRecDepth 100000
theorem wcode_any (wb : World) (wp : Nat) (w : World) (ts : List ByteArray) (fs : List Fn) (p : Option Addr) (cap : Nat) (p' : Option Addr) (cap' : Nat) (hx : Cd.ok ⟨ts, fs⟩ = true) (hS : ShIn wb) (hT : TextsIn wb p ts) (hF : FunsIn wb p' fs) (hb : Below wb.heap.size wb w) (h : Wr wb.heap.size wp w []) (hwp : wb.heap.size ≤ wp) (hpl : wp < w.heap.size) (hl : (Cd.bytes ⟨ts, fs⟩).length ≤ 4000000) :
    Calls Tryd.prog 18 #[.pointer (some ⟨wp, 0, none⟩), .agg #[.slice p ts.length cap, .slice p' fs.length cap']] w fun e w' => e = .returned (.tuple #[]) ∧ Wr wb.heap.size wp w' (Cd.bytes ⟨ts, fs⟩) ∧ FW wb.heap.size wp w w' := by
  unfold Cd.ok at hx
  rw [isTwo_len, isTwo_len] at hx
  simp only [Bool.and_eq_true, decide_eq_true_eq] at hx
  obtain ⟨o1, o2, o3, o4⟩ := hx
  have O2 : Hid (ts.all textOk = true) := o2
  have O4 : Hid (fs.all Fn.ok = true) := o4
  have hlen := Cd.bytes_len ts fs
  obtain ⟨R, hR⟩ : ∃ R, R = Cd.bytes ⟨ts, fs⟩ := ⟨_, rfl⟩
  rw [← hR] at hl hlen ⊢
  unfold Cd.bytes at hR
  simp only at hR
  have F0 : FW wb.heap.size wp w (w.alloc (Obj.cells #[Value.slice p ts.length cap, Value.slice p' fs.length cap'] 25)) := (FW.refl wb.heap.size wp w).alloc _
  have hx0 : CBox (w.alloc (Obj.cells #[Value.slice p ts.length cap, Value.slice p' fs.length cap'] 25)) w.heap.size p ts.length cap p' fs.length cap' := (MapKept.heap_alloc w _).1
  have hne : w.heap.size ≠ wp := by omega
  have Hne : Hid _ := hne
  have h0 := h.alloc (Obj.cells #[Value.slice p ts.length cap, Value.slice p' fs.length cap'] 25)
  have Hc : Hid _ := wtext_any wb.heap.size wp _ [] { data := #[77, 76, 49] } h0 hwp (by decide)
  have HF0 : Hid _ := F0
  have HS : Hid _ := hS
  have HT : Hid _ := hT
  have HF : Hid _ := hF
  have Hx0 : Hid _ := hx0
  have HR : Hid _ := hR
  have Hb : Hid _ := hb
  have Hpl : Hid _ := hpl
  have Hlen : Hid _ := hlen
  clear F0 hx0 hne h0 hR hS h hT hF hb hpl o2 o4 hlen
  go_enter Tryd.func18, Tryd.ntmps18
  go_upto_region 1 with fail
  generalize w.alloc (Obj.cells #[Value.slice p ts.length cap, Value.slice p' fs.length cap'] 25) = w0 at *
  go_wp2_with fail
  refine Calls.mono Hc.out ?_
  rintro e1 w1 ⟨rfl, W1, f1⟩
  have Hx1 : Hid _ := CBox.fw Hx0.out f1 Hne.out
  have HF1 : Hid _ := FW.trans HF0.out f1
  clear Hc Hx0 HF0 f1
  obtain ⟨x0, x1, x2⟩ := CBox.cells Hx1.out
  have Hc : Hid _ := wtwo_any wb.heap.size wp w1 _ ts.length W1 hwp (by simp)
  clear W1
  go_wp2_with fail
  refine Calls.mono Hc.out ?_
  rintro e1 w2 ⟨rfl, W1, f1⟩
  have Hx2 : Hid _ := CBox.fw Hx1.out f1 Hne.out
  have HF2 : Hid _ := FW.trans HF1.out f1
  clear x0 x1 x2 Hc Hx1 HF1 f1
  obtain ⟨x0, x1, x2⟩ := CBox.cells Hx2.out
  have Q0 : Hid (∃ l2 : List UInt8, l2 ++ ((ts.drop 0).flatMap textB ++ (big fs.length 2 ++ fs.flatMap Fn.bytes)) = R ∧ (ts.drop 0).all textOk = true ∧ Wr wb.heap.size wp w2 l2 ∧ FW wb.heap.size wp w w2) :=
    ⟨_, by rw [HR.out]; simp only [List.append_assoc, List.drop_zero, List.nil_append], O2.out, W1, HF2.out⟩
  clear W1
  go_wp2_with fail
  go_loopg [18] ts.length (fun g iv wr => ∃ i : Nat, iv = .int .i64 i ∧ i ≤ ts.length ∧ g = ts.length - i ∧ Hid (∃ l2 : List UInt8, l2 ++ ((ts.drop i).flatMap textB ++ (big fs.length 2 ++ fs.flatMap Fn.bytes)) = R ∧ (ts.drop i).all textOk = true ∧ Wr wb.heap.size wp wr l2 ∧ FW wb.heap.size wp w wr) ∧ Hid (CBox wr w.heap.size p ts.length cap p' fs.length cap'))
  case atStart => exact ⟨0, rfl, by omega, by omega, Q0, Hx2⟩
  case round =>
    clear Q0 x0 x1 x2 Hx2 HF2
    obtain ⟨i, rfl, hi1, rfl, HQ, Hxr⟩ := hrel
    obtain ⟨l2, r1, r3, r4, r5⟩ := HQ.out
    clear HQ
    by_cases hi : i < ts.length
    · have hi' : (i : Int) < ts.length := by omega
      obtain ⟨b, o, hq, hbw, y0⟩ := HT.out.get i hi
      subst hq
      rw [drop_all textOk ts i hi, Bool.and_eq_true] at r3
      rw [drop_flat textB ts i hi] at r1
      generalize ts[i]'hi = x at *
      have h2 : x.size ≤ 200 := by
        have := of_decide_eq_true r3.1
        omega
      have hbe := r5.onto Hb.out
      have v0 : wr.cell? ⟨b, o + i, none⟩ = some (.string x) := (hbe.cell (p := ⟨b, o + i, none⟩) hbw).trans y0
      have hbr : b < wr.heap.size := Nat.lt_of_lt_of_le hbw hbe.size
      have hlen2 : l2.length + (1 + x.size) ≤ 4000000 := by
        have := congrArg List.length r1
        simp only [List.length_append, textB_len] at this
        omega
      have Hc : Hid _ := wone_any wb.heap.size wp wr l2 x.size r4 hwp (by omega)
      have HFr : Hid _ := r5
      have Q : Hid (((l2 ++ big x.size 1) ++ x.data.toList) ++ ((ts.drop (i + 1)).flatMap textB ++ (big fs.length 2 ++ fs.flatMap Fn.bytes)) = R ∧ (ts.drop (i + 1)).all textOk = true) := ⟨by rw [← r1]; simp only [List.append_assoc, textB], r3.2⟩
      clear r1 r3 r4 r5 hbe hbw y0
      go_wp2_with fail
      refine Calls.mono Hc.out ?_
      rintro e1 w3 ⟨rfl, W3, f3⟩
      have HF3 : Hid _ := FW.trans HFr.out f3
      have Hx3 : Hid _ := CBox.fw Hxr.out f3 Hne.out
      clear v0 hbr Hc HFr f3 Hxr
      have Hc : Hid _ := wtext_any wb.heap.size wp w3 _ x W3 hwp (by simp only [List.length_append, big_len]; omega)
      clear W3
      go_wp2_with fail
      refine Calls.mono Hc.out ?_
      rintro e1 w4 ⟨rfl, W4, f4⟩
      have Hx4 : Hid _ := CBox.fw Hx3.out f4 Hne.out
      have Q4 : Hid (∃ l2 : List UInt8, l2 ++ ((ts.drop (i + 1)).flatMap textB ++ (big fs.length 2 ++ fs.flatMap Fn.bytes)) = R ∧ (ts.drop (i + 1)).all textOk = true ∧ Wr wb.heap.size wp w4 l2 ∧ FW wb.heap.size wp w w4) := ⟨_, Q.out.1, Q.out.2, W4, FW.trans HF3.out f4⟩
      clear Hc HF3 f4 Hx3 W4 Q
      go_wp2
      go_roundg (ts.length - (i + 1))
      case measure => omega
      case rel => exact ⟨i + 1, by first | rfl | (congr 1; omega) | go_num, by omega, rfl, Q4, Hx4⟩
    · have hi' : ¬ (i : Int) < ts.length := by omega
      rw [drop_done ts i hi, List.flatMap_nil, List.nil_append] at r1
      have hlen2 : l2.length + (2 + (fs.flatMap Fn.bytes).length) ≤ 4000000 := by
        have := congrArg List.length r1
        simp only [List.length_append, big_len] at this
        omega
      obtain ⟨x0, x1, x2⟩ := CBox.cells Hxr.out
      have Hc : Hid _ := wtwo_any wb.heap.size wp wr l2 fs.length r4 hwp (by omega)
      have HFr : Hid _ := r5
      have R1 : Hid ((l2 ++ big fs.length 2) ++ fs.flatMap Fn.bytes = R) := by unfold Hid; rw [List.append_assoc]; exact r1
      clear r1 r3 r4 r5
      go_wp2_with fail
      refine Calls.mono Hc.out ?_
      rintro e1 w3 ⟨rfl, W3, f3⟩
      have Hx3 : Hid _ := CBox.fw Hxr.out f3 Hne.out
      clear x0 x1 x2 Hxr
      obtain ⟨x0, x1, x2⟩ := CBox.cells Hx3.out
      have Q0 : Hid (∃ l2 : List UInt8, l2 ++ (fs.drop 0).flatMap Fn.bytes = R ∧ (fs.drop 0).all Fn.ok = true ∧ Wr wb.heap.size wp w3 l2 ∧ FW wb.heap.size wp w w3) := ⟨_, R1.out, O4.out, W3, FW.trans HFr.out f3⟩
      clear Hc W3 f3 HFr R1
      go_wp2_with fail
      go_loopg [38] fs.length (fun g iv wr => ∃ k : Nat, iv = .int .i64 k ∧ k ≤ fs.length ∧ g = fs.length - k ∧ Hid (∃ l2 : List UInt8, l2 ++ (fs.drop k).flatMap Fn.bytes = R ∧ (fs.drop k).all Fn.ok = true ∧ Wr wb.heap.size wp wr l2 ∧ FW wb.heap.size wp w wr))
      case atStart => exact ⟨0, rfl, by omega, by omega, Q0⟩
      case round =>
        clear Q0 x0 x1 x2 Hx3
        obtain ⟨k, rfl, hk1, rfl, HQ⟩ := hrel
        obtain ⟨l2, r1, r3, r4, r5⟩ := HQ.out
        clear HQ
        by_cases hk : k < fs.length
        · have hk' : (k : Int) < fs.length := by omega
          obtain ⟨b, o, q, qc, hq, hbw, hfc, hIn⟩ := HF.out.get k hk
          subst hq
          have hbe := r5.onto Hb.out
          have hfc2 := hfc.below hbw hbe
          have hbr := Nat.lt_of_lt_of_le hbw hbe.size
          rw [drop_all Fn.ok fs k hk, Bool.and_eq_true] at r3
          rw [drop_flat Fn.bytes fs k hk] at r1
          generalize fs[k]'hk = f at *
          obtain ⟨y0, y1, y2⟩ := hfc2
          have hfb : FBox (wr.alloc (Obj.cells #[Value.int IntKind.i64 f.free, Value.int IntKind.i64 f.slots, Value.slice q f.ins.length qc] 50)) wr.heap.size f q qc := (MapKept.heap_alloc wr _).1
          have hF2 := r5.alloc (Obj.cells #[Value.int IntKind.i64 f.free, Value.int IntKind.i64 f.slots, Value.slice q f.ins.length qc] 50)
          have hlen3 : l2.length + f.bytes.length ≤ 1000000000 := by
            have := congrArg List.length r1
            simp only [List.length_append] at this
            omega
          have Hc : Hid _ := wfun_any wb wp (wr.alloc (Obj.cells #[Value.int IntKind.i64 f.free, Value.int IntKind.i64 f.slots, Value.slice q f.ins.length qc] 50)) l2 f q qc r3.1 HS.out hIn (hF2.onto Hb.out) (r4.alloc _) hwp (by have := Hpl.out; have := r5.size; simp; omega) hlen3
          have Hfb : Hid _ := hfb
          have HF2 : Hid _ := hF2
          have Q : Hid ((l2 ++ Fn.bytes f) ++ (fs.drop (k + 1)).flatMap Fn.bytes = R ∧ (fs.drop (k + 1)).all Fn.ok = true) := ⟨by rw [← r1, List.append_assoc], r3.2⟩
          clear r1 r3 r4 r5 hbe hfc hIn hbw hfb hF2 hlen3
          go_upto_region 13 with fail
          clear y0 y1 y2 hbr
          generalize wr.alloc (Obj.cells #[Value.int IntKind.i64 f.free, Value.int IntKind.i64 f.slots, Value.slice q f.ins.length qc] 50) = w4 at *
          obtain ⟨z0, z1, z2, z3⟩ := FBox.cells Hfb.out
          go_wp2_with fail
          refine Calls.mono Hc.out ?_
          rintro e1 w5 ⟨rfl, W5, f5⟩
          have Q5 : Hid (∃ l2 : List UInt8, l2 ++ (fs.drop (k + 1)).flatMap Fn.bytes = R ∧ (fs.drop (k + 1)).all Fn.ok = true ∧ Wr wb.heap.size wp w5 l2 ∧ FW wb.heap.size wp w w5) := ⟨_, Q.out.1, Q.out.2, W5, FW.trans HF2.out f5⟩
          clear z0 z1 z2 z3 Hc Q W5 f5 Hfb HF2
          go_wp2
          go_roundg (fs.length - (k + 1))
          case measure => omega
          case rel => exact ⟨k + 1, by first | rfl | (congr 1; omega) | go_num, by omega, rfl, Q5⟩
        · have hk' : ¬ (k : Int) < fs.length := by omega
          rw [drop_done fs k hk, List.flatMap_nil, List.append_nil] at r1
          have Q : Hid (Wr wb.heap.size wp wr R ∧ FW wb.heap.size wp w wr) := ⟨r1 ▸ r4, r5⟩
          clear r1 r3 r4 r5
          go_wp2
          go_end0
          exact ⟨rfl, Q.out⟩
end
end Go.Proofs.YtimdjcffmajmnaaDoor
