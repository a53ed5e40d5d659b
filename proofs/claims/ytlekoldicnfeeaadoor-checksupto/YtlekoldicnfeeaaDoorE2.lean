/-
  The program's Encode: whether a function fits (funFits).
-/
import Derived.Test.YtlekoldicnfeeaaDoorE1
namespace Go.Proofs.YtlekoldicnfeeaaDoor
open Go.RowKit Go.Deep
theorem isTwo_len (n : Nat) : isTwo (n : Int) = decide (n ≤ 65535) := by
  unfold isTwo
  rw [decide_eq_true (by omega : (0 : Int) ≤ n), Bool.true_and]
  apply decide_eq_decide.2
  omega
section
set_option maxHeartbeats 8000000
set_option maxRecDepth 100000
theorem funFits_any (f : Fn) (q : Option Addr) (qc : Nat) (w : World) (hS : ShIn w) (hI : InsIn w q f.ins) : Calls Tryd.prog 29 #[.agg #[.int .i64 f.free, .int .i64 f.slots, .slice q f.ins.length qc]] w fun e w' => e = .returned (.bool f.ok) ∧ Below w.heap.size w w' := by
  have hb0 := (Below.refl w.heap.size w).alloc (Nat.le_refl _) (Obj.cells #[Value.int IntKind.i64 f.free, Value.int IntKind.i64 f.slots, Value.slice q f.ins.length qc] 50)
  have hx : FBox (w.alloc (Obj.cells #[Value.int IntKind.i64 f.free, Value.int IntKind.i64 f.slots, Value.slice q f.ins.length qc] 50)) w.heap.size f q qc := (MapKept.heap_alloc w _).1
  have HS : Hid _ := hS.below hb0
  have HI : Hid _ := hI.below hb0
  have hnl := hI.len
  have Hb0 : Hid _ := hb0
  have Hx : Hid _ := hx
  clear hS hI hb0 hx
  obtain ⟨R, hR⟩ : ∃ R, R = f.ok := ⟨_, rfl⟩
  rw [← hR]
  unfold Fn.ok at hR
  rw [isTwo_len] at hR
  have HR0 : Hid (R = (isTwo f.free && (isTwo f.slots && (decide (f.ins.length ≤ 65535) && f.ins.all In.ok)))) := hR
  clear hR
  go_enter Tryd.func29, Tryd.ntmps29
  go_upto_region 1 with fail
  generalize w.alloc (Obj.cells #[Value.int IntKind.i64 f.free, Value.int IntKind.i64 f.slots, Value.slice q f.ins.length qc] 50) = w0 at *
  obtain ⟨z0, z1, z2, z3⟩ := FBox.cells Hx.out
  have H1 : Hid _ := isTwo_any f.free w0
  have H2 : Hid _ := isTwo_any f.slots w0
  generalize isTwo f.free = p1 at *
  generalize isTwo f.slots = p2 at *
  cases p1
  · go_wp2_with fail
    refine Calls.mono H1.out ?_
    rintro e9 w9 ⟨rfl, rfl⟩
    clear H1
    go_wp2
    go_ret
    exact ⟨by rw [HR0.out]; rfl, Hb0.out⟩
  go_wp2_with fail
  refine Calls.mono H1.out ?_
  rintro e9 w9 ⟨rfl, rfl⟩
  clear H1
  cases p2
  · go_wp2_with fail
    refine Calls.mono H2.out ?_
    rintro e9 w9 ⟨rfl, rfl⟩
    clear H2
    go_wp2
    go_ret
    exact ⟨by rw [HR0.out]; rfl, Hb0.out⟩
  go_wp2_with fail
  refine Calls.mono H2.out ?_
  rintro e9 w9 ⟨rfl, rfl⟩
  clear H2
  by_cases hl : ¬ f.ins.length ≤ 65535
  · have HR1 : R = false := by rw [HR0.out, decide_eq_false hl]; rfl
    have hl' : (65535 : Int) < f.ins.length := by omega
    subst HR1
    go_wp2
    go_ret
    exact ⟨rfl, Hb0.out⟩
  replace hl : f.ins.length ≤ 65535 := by omega
  have HR1 : Hid (R = f.ins.all In.ok) := by unfold Hid; rw [HR0.out, decide_eq_true hl]; rfl
  have hl' : ¬ (65535 : Int) < f.ins.length := by omega
  go_wp2_with fail
  go_loopg [24] f.ins.length (fun g iv wr => ∃ i : Nat, iv = .int .i64 i ∧ i ≤ f.ins.length ∧ g = f.ins.length - i ∧ Hid ((f.ins.drop i).all In.ok = f.ins.all In.ok ∧ Below w9.heap.size w9 wr))
  case atStart => exact ⟨0, rfl, by omega, by omega, rfl, Below.refl _ _⟩
  case round =>
    obtain ⟨i, rfl, hi1, rfl, HR⟩ := hrel
    clear z0 z1 z2 z3
    by_cases hi : i < f.ins.length
    · have hi' : (i : Int) < f.ins.length := by omega
      obtain ⟨r1, r2⟩ := HR.out
      obtain ⟨b, o, rfl, hbw, y0, y1, y2⟩ := HI.out.get i hi
      rw [drop_all In.ok f.ins i hi] at r1
      generalize f.ins[i]'hi = x at *
      have hk1 := r2.alloc r2.size (Obj.cells #[Value.int IntKind.i64 x.op, Value.int IntKind.i64 x.a, Value.int IntKind.i64 x.b] 47)
      have v0 : wr.cell? ⟨b, o + i * 3, none⟩ = some (.int .i64 x.op) := (r2.cell (p := ⟨b, o + i * 3, none⟩) hbw).trans y0
      have v1 : wr.cell? ⟨b, o + i * 3 + 1, none⟩ = some (.int .i64 x.a) := (r2.cell (p := ⟨b, o + i * 3 + 1, none⟩) hbw).trans y1
      have v2 : wr.cell? ⟨b, o + i * 3 + 2, none⟩ = some (.int .i64 x.b) := (r2.cell (p := ⟨b, o + i * 3 + 2, none⟩) hbw).trans y2
      have hbr : b < wr.heap.size := Nat.lt_of_lt_of_le hbw r2.size
      have hxb : (wr.alloc (Obj.cells #[Value.int IntKind.i64 x.op, Value.int IntKind.i64 x.a, Value.int IntKind.i64 x.b] 47)).heap[wr.heap.size]? = some (Obj.cells #[Value.int IntKind.i64 x.op, Value.int IntKind.i64 x.a, Value.int IntKind.i64 x.b] 47) := (MapKept.heap_alloc wr _).1
      have Hxb : Hid _ := hxb
      have Hk1 : Hid _ := hk1
      have Hall : Hid _ := r1
      clear HR r1 r2 y0 y1 y2 hk1 hxb hbw
      go_upto_region 6 with fail
      clear v0 v1 v2 hbr
      generalize wr.alloc (Obj.cells #[Value.int IntKind.i64 x.op, Value.int IntKind.i64 x.a, Value.int IntKind.i64 x.b] 47) = w1 at *
      have u0 : w1.cell? ⟨wr.heap.size, 0, none⟩ = some (.int .i64 x.op) := by simp [World.cell?, Hxb.out]
      have u1 : w1.cell? ⟨wr.heap.size, 1, none⟩ = some (.int .i64 x.a) := by simp [World.cell?, Hxb.out]
      have u2 : w1.cell? ⟨wr.heap.size, 2, none⟩ = some (.int .i64 x.b) := by simp [World.cell?, Hxb.out]
      have Hc : Hid _ := below_any x.op 26 w1
      have e26 : (decide (0 ≤ x.op) && decide (x.op < 26)) = isOp x.op := by
        unfold isOp
        congr 1
        apply decide_eq_decide.2
        omega
      rw [e26] at Hc
      clear e26
      cases hop : isOp x.op
      · rw [hop] at Hc
        have hR1 : R = false := by rw [HR1.out, ← Hall.out, x.ok_not hop]; rfl
        subst hR1
        clear hop
        go_wp2_with fail
        refine Calls.mono Hc.out ?_
        rintro e8 w8 ⟨rfl, rfl⟩
        clear Hc
        go_wp2
        go_ret
        exact ⟨rfl, Below.trans Hb0.out (Hk1.out.mono (Below.size Hb0.out))⟩
      · rw [hop] at Hc
        have Hop : Hid _ := opfit_any x.op.toNat (by have := isOp_nat hop; omega) x.a x.b w1 (ShIn.below HS.out Hk1.out)
        have eop : ((x.op.toNat : Nat) : Int) = x.op := by have := isOp_nat hop; omega
        rw [eop] at Hop
        clear eop hop
        go_wp2_with fail
        refine Calls.mono Hc.out ?_
        rintro e8 w8 ⟨rfl, rfl⟩
        clear Hc
        go_wp2_with fail
        refine Calls.mono Hop.out ?_
        rintro e7 w7 ⟨rfl, hb7⟩
        clear Hop u0 u1 u2
        have Hk7 : Hid (Below w9.heap.size w9 w7) := Below.then Hk1.out hb7 (Nat.le_refl _)
        clear hb7
        have Hall2 : Hid ((In.ok x && (f.ins.drop (i + 1)).all In.ok) = f.ins.all In.ok) := Hall.out
        clear Hall
        generalize hok : In.ok ⟨x.op, x.a, x.b⟩ = ok at *
        clear hok
        cases ok
        · have hR1 : R = false := by rw [HR1.out, ← Hall2.out]; rfl
          subst hR1
          go_wp2
          go_ret
          exact ⟨rfl, Below.trans Hb0.out (Hk7.out.mono (Below.size Hb0.out))⟩
        · go_wp2
          go_roundg (f.ins.length - (i + 1))
          case measure => omega
          case rel => exact ⟨i + 1, by first | rfl | (congr 1; omega) | go_num, by omega, rfl, Hall2.out, Hk7.out⟩
    · have hi' : ¬ (i : Int) < f.ins.length := by omega
      have hr := HR.out
      rw [drop_done f.ins i hi] at hr
      go_wp2
      go_ret
      exact ⟨by rw [HR1.out, ← hr.1]; rfl, Below.trans Hb0.out (hr.2.mono (Below.size Hb0.out))⟩
end
end Go.Proofs.YtlekoldicnfeeaaDoor
