/-
  The law's own word: two codes in memory that are one code are the same (Same).
-/
import Derived.Test.YtimdjcffmajmnaaDoorC11
namespace Go.Proofs.YtimdjcffmajmnaaDoor
open Go.RowKit Go.Deep
theorem part42 : Tryd.prog.underlying 47 = some (.struct (Tryd.prog.fieldsOf 47)) := by kernel_rfl
theorem held42 : Tryd.prog.stoodInHeld 47 = false := by kernel_rfl
theorem guard42 : Tryd.prog.eqGuardType Tryd.prog.depth 47 = false := by kernel_rfl
theorem neq42 (a b c : Int) (w : World) : (binOp .neq 47 (.agg #[.int .i64 a, .int .i64 b, .int .i64 c]) (.agg #[.int .i64 a, .int .i64 b, .int .i64 c])).run Tryd.prog w = .ok (.bool false) w := by
  have u3 := Tryd.underlying3
  rw [run_neq_struct, show (10000 : Nat) = 9999 + 1 from rfl, run_equalIn_agg w 9999 47 _ _ part42 held42]
  simp only [Program.fieldsOf, Tryd.underlying47]
  go_simp
theorem kpN {B : Nat} {w w' : World} (h : Below B w w') (n : Nat) : Below B w (w'.drewN n) := ⟨h.os, h.tape, h.output, h.size, h.block⟩
/-- What the two hold in every later world. -/
structure Two2 (w : World) (a b : Nat) (p : Option Addr) (cap : Nat) (p' : Option Addr) (cap' : Nat) (q : Option Addr) (qcap : Nat) (q' : Option Addr) (qcap' : Nat) (ts : List ByteArray) (fs : List Fn) (wx : World) : Prop where
  a0 : wx.cell? ⟨a, 0, none⟩ = some (.slice p ts.length cap)
  a1 : wx.cell? ⟨a, 1, none⟩ = some (.slice p' fs.length cap')
  b0 : wx.cell? ⟨b, 0, none⟩ = some (.slice q ts.length qcap)
  b1 : wx.cell? ⟨b, 1, none⟩ = some (.slice q' fs.length qcap')
  al : a < wx.heap.size
  bl : b < wx.heap.size
  at_ : TextsIn wx p ts
  bt : TextsIn wx q ts
  af : FunsIn wx p' fs
  bf : FunsIn wx q' fs
  be : Below w.heap.size w wx
section
set_option maxHeartbeats 8000000
set_option maxRecDepth 100000
theorem same_row (c : Cd) (p : Option Addr) (cap : Nat) (p' : Option Addr) (cap' : Nat) (q : Option Addr) (qcap : Nat) (q' : Option Addr) (qcap' : Nat) (w : World) (hA : TextsIn w p c.texts) (hB : TextsIn w q c.texts) (hF : FunsIn w p' c.funs) (hG : FunsIn w q' c.funs) :
    Calls Tryd.prog 12 #[.agg #[.slice p c.texts.length cap, .slice p' c.funs.length cap'], .agg #[.slice q c.texts.length qcap, .slice q' c.funs.length qcap']] w fun e w' => e = .returned (.bool true) ∧ Below w.heap.size w w' := by
  obtain ⟨ts, fs⟩ := c
  simp only at *
  have hn1 := hA.len
  have hn2 := hF.len
  have hk1 : Below w.heap.size w (w.alloc (Obj.cells #[Value.slice p ts.length cap, Value.slice p' fs.length cap'] 25)) := (Below.refl _ _).alloc (Nat.le_refl _) _
  have hk2 : Below w.heap.size w ((w.alloc (Obj.cells #[Value.slice p ts.length cap, Value.slice p' fs.length cap'] 25)).alloc (Obj.cells #[Value.slice q ts.length qcap, Value.slice q' fs.length qcap'] 25)) := hk1.alloc hk1.size _
  have hb1 : CBox (w.alloc (Obj.cells #[Value.slice p ts.length cap, Value.slice p' fs.length cap'] 25)) w.heap.size p ts.length cap p' fs.length cap' := (MapKept.heap_alloc w _).1
  have hb2 : CBox ((w.alloc (Obj.cells #[Value.slice p ts.length cap, Value.slice p' fs.length cap'] 25)).alloc (Obj.cells #[Value.slice q ts.length qcap, Value.slice q' fs.length qcap'] 25)) (w.heap.size + 1) q ts.length qcap q' fs.length qcap' := by
    have := (MapKept.heap_alloc (w.alloc (Obj.cells #[Value.slice p ts.length cap, Value.slice p' fs.length cap'] 25)) (Obj.cells #[Value.slice q ts.length qcap, Value.slice q' fs.length qcap'] 25)).1
    unfold CBox
    rw [← this]
    simp
  have hb1' := hb1.below ((Below.refl _ _).alloc (Nat.le_refl _) (Obj.cells #[Value.slice q ts.length qcap, Value.slice q' fs.length qcap'] 25))
  generalize hw2 : (w.alloc (Obj.cells #[Value.slice p ts.length cap, Value.slice p' fs.length cap'] 25)).alloc (Obj.cells #[Value.slice q ts.length qcap, Value.slice q' fs.length qcap'] 25) = w2 at *
  have HW : Hid (∀ wx, Below w2.heap.size w2 wx → Two2 w w.heap.size (w.heap.size + 1) p cap p' cap' q qcap q' qcap' ts fs wx) := fun wx hx => by
    have hx' : Below w.heap.size w wx := hk2.trans (hx.mono hk2.size)
    obtain ⟨c1, c2, c3⟩ := (hb1'.below hx).cells
    obtain ⟨d1, d2, d3⟩ := (hb2.below hx).cells
    exact ⟨c1, c2, d1, d2, c3, d3, hA.below hx', hB.below hx', hF.below hx', hG.below hx', hx'⟩
  clear hA hB hF hG hk1 hk2 hb1 hb2 hb1'
  go_enter Tryd.func12, Tryd.ntmps12
  obtain ⟨x1, x2, x3, x4, x5, x6, _, _, _, _, _⟩ := HW.out w2 (Below.refl _ _)
  go_upto_block 0 with fail
  clear hw2
  go_cut [] from 26 to 43 (fun wx => Hid (Below w2.heap.size w2 wx))
  case first =>
    go_wp2_with fail
    go_loopg [5] ts.length (fun g iv wr => ∃ (i : Nat), iv = .int .i64 i ∧ i ≤ ts.length ∧ g = ts.length - i ∧ Hid (Below w2.heap.size w2 wr))
    case atStart => exact ⟨0, rfl, by omega, by omega, Below.refl _ _⟩
    case round =>
      obtain ⟨i, rfl, hi1, rfl, HR1⟩ := hrel
      clear x1 x2 x3 x4 x5 x6
      obtain ⟨x1, x2, x3, x4, x5, x6, x7, x8, x9, x10, x11⟩ := HW.out wr HR1.out
      by_cases hi : i < ts.length
      · have hi' : (i : Int) < ts.length := by omega
        obtain ⟨g, o, rfl, hg1, hg2⟩ := x7.get i hi
        obtain ⟨g', o', rfl, hg3, hg4⟩ := x8.get i hi
        clear x7 x8 x9 x10 x11
        generalize ts[i]'hi = t at *
        go_wp2_with fail
        go_quiet (fail)
        have Q : Hid (Below w2.heap.size w2 (wr.drewN nq)) := kpN HR1.out nq
        go_wp2
        go_roundg (ts.length - (i + 1))
        case measure => omega
        case rel => exact ⟨i + 1, by first | rfl | (congr 1; omega) | go_num, by omega, rfl, Q⟩
      · have hi' : ¬ (i : Int) < ts.length := by omega
        clear x7 x8 x9 x10 x11
        go_wp2
        go_meet
        exact HR1.out
  case rest =>
    have Hb : Hid (Below w2.heap.size w2 wc) := hcut.out
    clear hcut x1 x2 x3 x4 x5 x6
    go_wp2_with fail
    go_loopg [6] fs.length (fun g iv wr => ∃ (i : Nat), iv = .int .i64 i ∧ i ≤ fs.length ∧ g = fs.length - i ∧ Hid (Below w2.heap.size w2 wr))
    case atStart => exact ⟨0, rfl, by omega, by omega, Hb.out⟩
    case round =>
      clear Hb
      obtain ⟨i, rfl, hi1, rfl, HR1⟩ := hrel
      obtain ⟨x1, x2, x3, x4, x5, x6, x7, x8, x9, x10, x11⟩ := HW.out wr HR1.out
      by_cases hi : i < fs.length
      · have hi' : (i : Int) < fs.length := by omega
        obtain ⟨g, o, z, zc, rfl, hg1, hg2, hg3⟩ := x9.get i hi
        obtain ⟨g', o', z', zc', rfl, hg4, hg5, hg6⟩ := x10.get i hi
        generalize fs[i]'hi = f at *
        have hgl := hg3.len
        obtain ⟨y0, y1, y2⟩ := hg2
        obtain ⟨y3, y4, y5⟩ := hg5
        have HI1 : Hid _ := hg3
        have HI2 : Hid _ := hg6
        clear x7 x8 x9 x10 x11 hg3 hg6
        have hk1 : Below wr.heap.size wr (wr.alloc (Obj.cells #[Value.int IntKind.i64 f.free, Value.int IntKind.i64 f.slots, Value.slice z f.ins.length zc] 50)) := (Below.refl _ _).alloc (Nat.le_refl _) _
        have hk2 : Below wr.heap.size wr ((wr.alloc (Obj.cells #[Value.int IntKind.i64 f.free, Value.int IntKind.i64 f.slots, Value.slice z f.ins.length zc] 50)).alloc (Obj.cells #[Value.int IntKind.i64 f.free, Value.int IntKind.i64 f.slots, Value.slice z' f.ins.length zc'] 50)) := hk1.alloc hk1.size _
        have hb1 : FBox (wr.alloc (Obj.cells #[Value.int IntKind.i64 f.free, Value.int IntKind.i64 f.slots, Value.slice z f.ins.length zc] 50)) wr.heap.size f z zc := (MapKept.heap_alloc wr _).1
        have hb2 : FBox ((wr.alloc (Obj.cells #[Value.int IntKind.i64 f.free, Value.int IntKind.i64 f.slots, Value.slice z f.ins.length zc] 50)).alloc (Obj.cells #[Value.int IntKind.i64 f.free, Value.int IntKind.i64 f.slots, Value.slice z' f.ins.length zc'] 50)) (wr.heap.size + 1) f z' zc' := by
          have := (MapKept.heap_alloc (wr.alloc (Obj.cells #[Value.int IntKind.i64 f.free, Value.int IntKind.i64 f.slots, Value.slice z f.ins.length zc] 50)) (Obj.cells #[Value.int IntKind.i64 f.free, Value.int IntKind.i64 f.slots, Value.slice z' f.ins.length zc'] 50)).1
          unfold FBox
          rw [← this]
          simp
        have hb1' := hb1.below ((Below.refl _ _).alloc (Nat.le_refl _) (Obj.cells #[Value.int IntKind.i64 f.free, Value.int IntKind.i64 f.slots, Value.slice z' f.ins.length zc'] 50))
        have Hk2 : Hid _ := hk2
        have Hb1 : Hid _ := hb1'
        have Hb2 : Hid _ := hb2
        clear hk1 hk2 hb1 hb2 hb1'
        go_upto_region 13 with fail
        generalize (wr.alloc (Obj.cells #[Value.int IntKind.i64 f.free, Value.int IntKind.i64 f.slots, Value.slice z f.ins.length zc] 50)).alloc (Obj.cells #[Value.int IntKind.i64 f.free, Value.int IntKind.i64 f.slots, Value.slice z' f.ins.length zc'] 50) = w3 at *
        have HK : Hid (∀ wx, Below w3.heap.size w3 wx → (wx.cell? ⟨wr.heap.size, 0, none⟩ = some (.int .i64 f.free) ∧ wx.cell? ⟨wr.heap.size, 1, none⟩ = some (.int .i64 f.slots) ∧ wx.cell? ⟨wr.heap.size, 2, none⟩ = some (.slice z f.ins.length zc) ∧ wr.heap.size < wx.heap.size) ∧ (wx.cell? ⟨wr.heap.size + 1, 0, none⟩ = some (.int .i64 f.free) ∧ wx.cell? ⟨wr.heap.size + 1, 1, none⟩ = some (.int .i64 f.slots) ∧ wx.cell? ⟨wr.heap.size + 1, 2, none⟩ = some (.slice z' f.ins.length zc') ∧ wr.heap.size + 1 < wx.heap.size) ∧ InsIn wx z f.ins ∧ InsIn wx z' f.ins ∧ Below w2.heap.size w2 wx) := fun wx hx => by
          have hx' : Below wr.heap.size wr wx := Below.trans Hk2.out (hx.mono (Below.size Hk2.out))
          exact ⟨(FBox.below Hb1.out hx).cells, (FBox.below Hb2.out hx).cells, InsIn.below HI1.out hx', InsIn.below HI2.out hx', HR1.out.trans (hx'.mono HR1.out.size)⟩
        clear x1 x2 x3 x4 x5 x6 y0 y1 y2 y3 y4 y5 Hk2 Hb1 Hb2 HI1 HI2
        obtain ⟨⟨y0, y1, y2, y3⟩, ⟨y4, y5, y6, y7⟩, _, _, _⟩ := HK.out w3 (Below.refl _ _)
        go_wp2_with fail
        go_loopg [9] f.ins.length (fun g iv wr => ∃ (j : Nat), iv = .int .i64 j ∧ j ≤ f.ins.length ∧ g = f.ins.length - j ∧ Hid (Below w3.heap.size w3 wr))
        case atStart => exact ⟨0, rfl, by omega, by omega, Below.refl _ _⟩
        case round =>
          obtain ⟨j, rfl, hj1, rfl, HR2⟩ := hrel
          rename World => wy
          clear y0 y1 y2 y3 y4 y5 y6 y7
          obtain ⟨⟨y0, y1, y2, y3⟩, ⟨y4, y5, y6, y7⟩, z1, z2, z3⟩ := HK.out wy HR2.out
          by_cases hj : j < f.ins.length
          · have hj' : (j : Int) < f.ins.length := by omega
            obtain ⟨e, oe, rfl, he1, he2, he3, he4⟩ := z1.get j hj
            obtain ⟨e', oe', rfl, he5, he6, he7, he8⟩ := z2.get j hj
            generalize f.ins[j]'hj = x at *
            obtain ⟨op, xa, xb⟩ := x
            simp only at *
            clear z1 z2 z3 y0 y1 y4 y5
            have hgd := guard42
            have hne := neq42 op xa xb
            go_wp2_with fail
            go_quiet (fail)
            have Q : Hid (Below w3.heap.size w3 (wy.drewN nq)) := kpN HR2.out nq
            go_wp2
            go_roundg (f.ins.length - (j + 1))
            case measure => omega
            case rel => exact ⟨j + 1, by first | rfl | (congr 1; omega) | go_num, by omega, rfl, Q⟩
          · have hj' : ¬ (j : Int) < f.ins.length := by omega
            have Q : Hid (Below w2.heap.size w2 wy) := z3
            clear z1 z2 z3
            go_wp2
            go_roundg (fs.length - (i + 1))
            case measure => omega
            case rel => exact ⟨i + 1, by first | rfl | (congr 1; omega) | go_num, by omega, rfl, Q⟩
      · have hi' : ¬ (i : Int) < fs.length := by omega
        clear x7 x8 x9 x10
        go_wp2
        go_ret
        exact ⟨rfl, x11⟩
end
end Go.Proofs.YtimdjcffmajmnaaDoor
