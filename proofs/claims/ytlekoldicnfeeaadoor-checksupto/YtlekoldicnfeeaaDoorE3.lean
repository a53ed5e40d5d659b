/-
  The program's Encode: whether a code fits (fits).
-/
import Derived.Test.YtlekoldicnfeeaaDoorE2
namespace Go.Proofs.YtlekoldicnfeeaaDoor
open Go.RowKit Go.Deep
section
set_option maxHeartbeats 8000000
set_option maxRecDepth 100000
theorem fits_any (ts : List ByteArray) (fs : List Fn) (p : Option Addr) (cap : Nat) (p' : Option Addr) (cap' : Nat) (w : World) (hS : ShIn w) (hT : TextsIn w p ts) (hF : FunsIn w p' fs) : Calls Tryd.prog 16 #[.agg #[.slice p ts.length cap, .slice p' fs.length cap']] w fun e w' => e = .returned (.bool (Cd.ok ⟨ts, fs⟩)) ∧ Below w.heap.size w w' := by
  have hb0 := (Below.refl w.heap.size w).alloc (Nat.le_refl _) (Obj.cells #[Value.slice p ts.length cap, Value.slice p' fs.length cap'] 25)
  have hx : CBox (w.alloc (Obj.cells #[Value.slice p ts.length cap, Value.slice p' fs.length cap'] 25)) w.heap.size p ts.length cap p' fs.length cap' := (MapKept.heap_alloc w _).1
  have HS : Hid _ := hS.below hb0
  have HT : Hid _ := hT.below hb0
  have HF : Hid _ := hF.below hb0
  have hnt := hT.len
  have hnf := hF.len
  have Hb0 : Hid _ := hb0
  have Hx : Hid _ := hx
  clear hS hT hF hb0 hx
  obtain ⟨R, hR⟩ : ∃ R, R = Cd.ok ⟨ts, fs⟩ := ⟨_, rfl⟩
  rw [← hR]
  unfold Cd.ok at hR
  have HR0 : Hid (R = (decide (ts.length ≤ 65535) && (ts.all textOk && (decide (fs.length ≤ 65535) && fs.all Fn.ok)))) := by
    unfold Hid
    rw [← isTwo_len, ← isTwo_len]
    exact hR
  clear hR
  go_enter Tryd.func16, Tryd.ntmps16
  go_upto_region 1 with fail
  generalize w.alloc (Obj.cells #[Value.slice p ts.length cap, Value.slice p' fs.length cap'] 25) = w0 at *
  obtain ⟨x0, x1, x2⟩ := CBox.cells Hx.out
  by_cases hl : 65535 < ts.length
  · have hR : R = false := by rw [HR0.out, decide_eq_false (by omega : ¬ ts.length ≤ 65535)]; rfl
    subst hR
    have hl' : (65535 : Int) < ts.length := by omega
    go_wp2
    go_ret
    exact ⟨rfl, Hb0.out⟩
  have hl' : ¬ (65535 : Int) < ts.length := by omega
  by_cases hm : 65535 < fs.length
  · have hR : R = false := by rw [HR0.out, decide_eq_false (by omega : ¬ fs.length ≤ 65535)]; simp
    subst hR
    have hm' : (65535 : Int) < fs.length := by omega
    go_wp2
    go_ret
    exact ⟨rfl, Hb0.out⟩
  have hm' : ¬ (65535 : Int) < fs.length := by omega
  have HR1 : Hid (R = (ts.all textOk && fs.all Fn.ok)) := by
    unfold Hid
    rw [HR0.out, decide_eq_true (by omega : ts.length ≤ 65535), decide_eq_true (by omega : fs.length ≤ 65535)]
    rfl
  clear HR0
  go_wp2_with fail
  go_loopg [20] ts.length (fun g iv wr => ∃ i : Nat, iv = .int .i64 i ∧ i ≤ ts.length ∧ g = ts.length - i ∧ wr = w0 ∧ Hid ((ts.drop i).all textOk = ts.all textOk))
  case atStart => exact ⟨0, rfl, by omega, by omega, rfl, rfl⟩
  case round =>
    obtain ⟨i, rfl, hi1, rfl, hw, HR⟩ := hrel
    have hw := hw.symm
    subst hw
    by_cases hi : i < ts.length
    · have hi' : (i : Int) < ts.length := by omega
      have r1 := HR.out
      clear HR
      obtain ⟨b, o, rfl, hbw, y0⟩ := HT.out.get i hi
      rw [drop_all textOk ts i hi] at r1
      generalize ts[i]'hi = x at *
      have Hall : Hid _ := r1
      clear r1
      by_cases h2 : 200 < x.size
      · have h2' : (200 : Int) < x.size := by omega
        have hR : R = false := by
          have : textOk x = false := by unfold textOk; exact decide_eq_false (by omega)
          rw [HR1.out, ← Hall.out, this]
          rfl
        subst hR
        go_wp2
        go_ret
        exact ⟨rfl, Hb0.out⟩
      · have h2' : ¬ (200 : Int) < x.size := by omega
        have Hall2 : Hid ((ts.drop (i + 1)).all textOk = ts.all textOk) := by
          have : textOk x = true := by unfold textOk; exact decide_eq_true (by omega)
          unfold Hid
          rw [← Hall.out, this]
          rfl
        clear Hall
        go_wp2
        go_roundg (ts.length - (i + 1))
        case measure => omega
        case rel => exact ⟨i + 1, by first | rfl | (congr 1; omega) | go_num, by omega, rfl, rfl, Hall2⟩
    · have hi' : ¬ (i : Int) < ts.length := by omega
      have r1 := HR.out
      rw [drop_done ts i hi] at r1
      have HR2 : Hid (R = fs.all Fn.ok) := by
        unfold Hid
        rw [HR1.out, ← r1]
        rfl
      clear HR HR1 r1
      go_wp2_with fail
      go_loopg [31] fs.length (fun g iv wr => ∃ i : Nat, iv = .int .i64 i ∧ i ≤ fs.length ∧ g = fs.length - i ∧ Hid ((fs.drop i).all Fn.ok = fs.all Fn.ok ∧ Below w0.heap.size w0 wr))
      case atStart => exact ⟨0, rfl, by omega, by omega, rfl, Below.refl _ _⟩
      case round =>
        obtain ⟨k, rfl, hk1, rfl, HR⟩ := hrel
        by_cases hk : k < fs.length
        · have hk' : (k : Int) < fs.length := by omega
          obtain ⟨r1, r3⟩ := HR.out
          obtain ⟨b, o, q, qc, rfl, hbw, hfc, hIn⟩ := HF.out.get k hk
          have hfc2 := hfc.below hbw r3
          have hbr := Nat.lt_of_lt_of_le hbw r3.size
          rw [drop_all Fn.ok fs k hk] at r1
          generalize fs[k]'hk = f at *
          obtain ⟨y0, y1, y2⟩ := hfc2
          have hba : Below w0.heap.size w0 (wr.alloc (Obj.cells #[Value.int IntKind.i64 f.free, Value.int IntKind.i64 f.slots, Value.slice q f.ins.length qc] 50)) := r3.alloc r3.size _
          have hfb : FBox (wr.alloc (Obj.cells #[Value.int IntKind.i64 f.free, Value.int IntKind.i64 f.slots, Value.slice q f.ins.length qc] 50)) wr.heap.size f q qc := (MapKept.heap_alloc wr _).1
          have Hcall : Hid _ := funFits_any f q qc (wr.alloc (Obj.cells #[Value.int IntKind.i64 f.free, Value.int IntKind.i64 f.slots, Value.slice q f.ins.length qc] 50)) (HS.out.below hba) (hIn.below hba)
          have Hfb : Hid _ := hfb
          have Hba : Hid _ := hba
          have Hall : Hid _ := r1
          clear HR r1 r3 hfc hIn hfb hba hbw
          go_upto_region 12 with fail
          clear y0 y1 y2 hbr x0 x1 x2
          generalize wr.alloc (Obj.cells #[Value.int IntKind.i64 f.free, Value.int IntKind.i64 f.slots, Value.slice q f.ins.length qc] 50) = w3 at *
          obtain ⟨z0, z1, z2, z3⟩ := FBox.cells Hfb.out
          go_wp2_with fail
          refine Calls.mono Hcall.out ?_
          rintro e1 w4 ⟨rfl, hb4⟩
          have Hk4 : Hid (Below w0.heap.size w0 w4) := Below.then Hba.out hb4 (Nat.le_refl _)
          clear hb4 z0 z1 z2 z3 Hcall Hba Hfb
          generalize Fn.ok f = ok at *
          cases ok
          · have hR : R = false := by rw [HR2.out, ← Hall.out]; rfl
            subst hR
            go_wp2
            go_ret
            exact ⟨rfl, Below.trans Hb0.out (Hk4.out.mono (Below.size Hb0.out))⟩
          · go_wp2
            go_roundg (fs.length - (k + 1))
            case measure => omega
            case rel => exact ⟨k + 1, by first | rfl | (congr 1; omega) | go_num, by omega, rfl, Hall.out, Hk4.out⟩
        · have hk' : ¬ (k : Int) < fs.length := by omega
          obtain ⟨r1, r3⟩ := HR.out
          rw [drop_done fs k hk] at r1
          have hR : R = true := by rw [HR2.out, ← r1]; rfl
          subst hR
          go_wp2
          go_ret
          exact ⟨rfl, Below.trans Hb0.out (r3.mono (Below.size Hb0.out))⟩
end
end Go.Proofs.YtlekoldicnfeeaaDoor
