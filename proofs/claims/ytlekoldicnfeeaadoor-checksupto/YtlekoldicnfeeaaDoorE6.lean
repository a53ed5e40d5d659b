/-
  The program's writer: an instruction (ins).
-/
import Derived.Test.YtlekoldicnfeeaaDoorE5
namespace Go.Proofs.YtlekoldicnfeeaaDoor
open Go.RowKit Go.Deep
theorem ShIn.fw {B wp : Nat} {w w' : World} (h : ShIn w) (hf : FW B wp w w') (hB : 1 < B) : ShIn w' := h.of_block (hf.block 1 h.lt (.inl hB))
theorem big4 (a : Int) : big a 4 = big (a / 65536) 2 ++ big a 2 := by
  rw [big2, big2]
  show [UInt8.ofNat (a / 256 / 256 / 256 % 256).toNat, UInt8.ofNat (a / 256 / 256 % 256).toNat, UInt8.ofNat (a / 256 % 256).toNat, UInt8.ofNat (a % 256).toNat] = _
  rw [show a / 256 / 256 = a / 65536 by omega]
  rfl
/-- The three cells of an instruction of one's own. -/
def IBox (w : World) (b : Nat) (x : In) : Prop := w.heap[b]? = some (.cells #[.int .i64 x.op, .int .i64 x.a, .int .i64 x.b] 47)
theorem IBox.cells {w : World} {b : Nat} {x : In} (h : IBox w b x) : w.cell? ⟨b, 0, none⟩ = some (.int .i64 x.op) ∧ w.cell? ⟨b, 1, none⟩ = some (.int .i64 x.a) ∧ w.cell? ⟨b, 2, none⟩ = some (.int .i64 x.b) ∧ b < w.heap.size := by
  have h2 := (Array.getElem?_eq_some_iff.1 h).1
  unfold IBox at h
  refine ⟨?_, ?_, ?_, h2⟩ <;> simp [World.cell?, h]
section
set_option maxHeartbeats 8000000
set_option maxRecDepth 100000
theorem wins_any (B wp : Nat) (w : World) (l : List UInt8) (k : Nat) (hk : k < 26) (a b : Int) (hx : In.ok ⟨k, a, b⟩ = true) (hS : ShIn w) (h : Wr B wp w l) (hwp : B ≤ wp) (hpl : wp < w.heap.size) (hB1 : 1 < B) (hl : l.length + (In.bytes ⟨k, a, b⟩).length ≤ 1000000000) :
    Calls Tryd.prog 55 #[.pointer (some ⟨wp, 0, none⟩), .agg #[.int .i64 k, .int .i64 a, .int .i64 b]] w fun e w' => e = .returned (.tuple #[]) ∧ Wr B wp w' (l ++ In.bytes ⟨k, a, b⟩) ∧ FW B wp w w' := by
  rw [In.bytes_of _ hx] at hl ⊢
  clear hx
  replace hl : l.length + (big k 1 ++ (argB (form k) 0 a ++ argB (form k) 1 b)).length ≤ 1000000000 := hl
  show Calls Tryd.prog 55 _ w fun e w' => _ ∧ Wr B wp w' (l ++ (big k 1 ++ (argB (form k) 0 a ++ argB (form k) 1 b))) ∧ _
  obtain ⟨R, hR⟩ : ∃ R, R = l ++ (big k 1 ++ (argB (form k) 0 a ++ argB (form k) 1 b)) := ⟨_, rfl⟩
  rw [← hR]
  have hk' : (k : Int) < 26 := by omega
  have F0 : FW B wp w (w.alloc (Obj.cells #[Value.int IntKind.i64 k, Value.int IntKind.i64 a, Value.int IntKind.i64 b] 47)) := (FW.refl B wp w).alloc _
  have hS0 := hS.fw F0 hB1
  have hx0 : IBox (w.alloc (Obj.cells #[Value.int IntKind.i64 k, Value.int IntKind.i64 a, Value.int IntKind.i64 b] 47)) w.heap.size ⟨k, a, b⟩ := (MapKept.heap_alloc w _).1
  have hne : w.heap.size ≠ wp := by omega
  have Hne : Hid _ := hne
  have h0 := h.alloc (Obj.cells #[Value.int IntKind.i64 k, Value.int IntKind.i64 a, Value.int IntKind.i64 b] 47)
  simp only [List.length_append, big_len] at hl
  have Hc : Hid _ := wone_any B wp _ l k h0 hwp (by omega)
  have HF0 : Hid _ := F0
  have HS0 : Hid _ := hS0
  have Hx0 : Hid _ := hx0
  have HR : Hid _ := hR
  clear F0 hS0 hx0 hne h0 hR hS h hpl
  go_enter Tryd.func55, Tryd.ntmps55
  go_upto_region 1 with fail
  generalize w.alloc (Obj.cells #[Value.int IntKind.i64 k, Value.int IntKind.i64 a, Value.int IntKind.i64 b] 47) = w0 at *
  obtain ⟨x0, x1, x2, x3⟩ := IBox.cells Hx0.out
  go_wp2_with fail
  refine Calls.mono Hc.out ?_
  rintro e1 w1 ⟨rfl, W1, f1⟩
  have Hx1 : Hid (IBox w1 w.heap.size ⟨k, a, b⟩) := f1.box Hx0.out (by decide) Hne.out
  have HS1 : ShIn w1 := ShIn.fw HS0.out f1 hB1
  have HF1 : Hid _ := FW.trans HF0.out f1
  have HW1 : Hid _ := W1
  clear x0 x1 x2 x3 Hc Hx0 HS0 HF0 f1 W1
  obtain ⟨x0, x1, x2, x3⟩ := IBox.cells Hx1.out
  obtain ⟨c0, -, -⟩ := HS1.cells k hk
  clear HS1
  rcases kind_form k hk with ⟨h1, h2⟩ | ⟨h1, h2⟩ | ⟨h1, h2⟩ | ⟨h1, h2⟩
  · rw [h1] at c0
    rw [h2, argB_none [] 0 rfl, argB_none [] 1 rfl] at hl HR
    clear h1 h2
    simp only [List.length_nil] at hl
    go_wp2
    go_end0
    refine ⟨rfl, ?_, HF1.out⟩
    rw [HR.out]
    have := HW1.out
    simpa only [List.append_assoc, List.append_nil] using this
  · rw [h1] at c0
    rw [h2, argB_i, argB_none [105] 1 rfl] at hl HR
    clear h1 h2
    simp only [big_len, List.length_nil] at hl
    have Hc : Hid _ := wtwo_any B wp w1 (l ++ big k 1) (a / 65536) HW1.out hwp (by simp only [List.length_append, big_len]; omega)
    go_wp2_with fail
    refine Calls.mono Hc.out ?_
    rintro e1 w2 ⟨rfl, W, f⟩
    have Hx2 : Hid (IBox w2 w.heap.size ⟨k, a, b⟩) := f.box Hx1.out (by decide) Hne.out
    have HF2 : Hid _ := FW.trans HF1.out f
    have HW2 : Hid _ := W
    clear x0 x1 x2 x3 Hc W f
    obtain ⟨x0, x1, x2, x3⟩ := IBox.cells Hx2.out
    have Hc : Hid _ := wtwo_any B wp w2 ((l ++ big k 1) ++ big (a / 65536) 2) a HW2.out hwp (by simp only [List.length_append, big_len]; omega)
    go_wp2_with fail
    refine Calls.mono Hc.out ?_
    rintro e1 w3 ⟨rfl, W, f⟩
    have Hx3 : Hid (IBox w3 w.heap.size ⟨k, a, b⟩) := f.box Hx2.out (by decide) Hne.out
    have HF3 : Hid _ := FW.trans HF2.out f
    have HW3 : Hid _ := W
    clear x0 x1 x2 x3 Hc W f
    obtain ⟨x0, x1, x2, x3⟩ := IBox.cells Hx3.out
    go_wp2
    go_end0
    refine ⟨rfl, ?_, HF3.out⟩
    rw [HR.out, big4]
    have := HW3.out
    simpa only [List.append_assoc, List.append_nil] using this
  · rw [h1] at c0
    rw [h2, argB_n [110] 0 rfl, argB_none [110] 1 rfl] at hl HR
    clear h1 h2
    simp only [big_len, List.length_nil] at hl
    have Hc : Hid _ := wtwo_any B wp w1 (l ++ big k 1) a HW1.out hwp (by simp only [List.length_append, big_len]; omega)
    go_wp2_with fail
    refine Calls.mono Hc.out ?_
    rintro e1 w2 ⟨rfl, W, f⟩
    have Hx2 : Hid (IBox w2 w.heap.size ⟨k, a, b⟩) := f.box Hx1.out (by decide) Hne.out
    have HF2 : Hid _ := FW.trans HF1.out f
    have HW2 : Hid _ := W
    clear x0 x1 x2 x3 Hc W f
    obtain ⟨x0, x1, x2, x3⟩ := IBox.cells Hx2.out
    go_wp2
    go_end0
    refine ⟨rfl, ?_, HF2.out⟩
    rw [HR.out]
    have := HW2.out
    simpa only [List.append_assoc, List.append_nil] using this
  · rw [h1] at c0
    rw [h2, argB_n [110, 110] 0 rfl, argB_n [110, 110] 1 rfl] at hl HR
    clear h1 h2
    simp only [big_len] at hl
    have Hc : Hid _ := wtwo_any B wp w1 (l ++ big k 1) a HW1.out hwp (by simp only [List.length_append, big_len]; omega)
    go_wp2_with fail
    refine Calls.mono Hc.out ?_
    rintro e1 w2 ⟨rfl, W, f⟩
    have Hx2 : Hid (IBox w2 w.heap.size ⟨k, a, b⟩) := f.box Hx1.out (by decide) Hne.out
    have HF2 : Hid _ := FW.trans HF1.out f
    have HW2 : Hid _ := W
    clear x0 x1 x2 x3 Hc W f
    obtain ⟨x0, x1, x2, x3⟩ := IBox.cells Hx2.out
    have Hc : Hid _ := wtwo_any B wp w2 ((l ++ big k 1) ++ big a 2) b HW2.out hwp (by simp only [List.length_append, big_len]; omega)
    go_wp2_with fail
    refine Calls.mono Hc.out ?_
    rintro e1 w3 ⟨rfl, W, f⟩
    have Hx3 : Hid (IBox w3 w.heap.size ⟨k, a, b⟩) := f.box Hx2.out (by decide) Hne.out
    have HF3 : Hid _ := FW.trans HF2.out f
    have HW3 : Hid _ := W
    clear x0 x1 x2 x3 Hc W f
    obtain ⟨x0, x1, x2, x3⟩ := IBox.cells Hx3.out
    go_wp2
    go_end0
    refine ⟨rfl, ?_, HF3.out⟩
    rw [HR.out]
    have := HW3.out
    simpa only [List.append_assoc, List.append_nil] using this
end
end Go.Proofs.YtlekoldicnfeeaaDoor
