/-
  The law Encodes: the program's Encode answers as the document's.
-/
import Derived.Test.YtimdjcffmajmnaaDoorC6
import Derived.Test.YtimdjcffmajmnaaDoorC22
import Derived.Test.YtimdjcffmajmnaaDoorE9
namespace Go.Proofs.YtimdjcffmajmnaaDoor
open Go.RowKit Go.Deep
section
set_option maxHeartbeats 8000000
set_option maxRecDepth 100000
theorem encodes_any (hE : EncOk 7) (c : Cd) (p : Option Addr) (cap : Nat) (p' : Option Addr) (cap' : Nat) (w : World) (hS : ShIn w) (hW : WdIn w) (hT : TextsIn w p c.texts) (hF : FunsIn w p' c.funs) (hl : c.bytes.length ≤ 1000000000) :
    Calls Tryd.prog 3 #[.agg #[.slice p c.texts.length cap, .slice p' c.funs.length cap']] w fun e w' => e = .returned (.bool true) ∧ Below w.heap.size w w' := by
  have hk1 : Below w.heap.size w (w.alloc (Obj.cells #[Value.slice p c.texts.length cap, Value.slice p' c.funs.length cap'] 25)) := (Below.refl _ _).alloc (Nat.le_refl _) _
  have hb1 : CBox (w.alloc (Obj.cells #[Value.slice p c.texts.length cap, Value.slice p' c.funs.length cap'] 25)) w.heap.size p c.texts.length cap p' c.funs.length cap' := (MapKept.heap_alloc w _).1
  have HT : Hid (TextsIn w p c.texts) := hT
  have HF : Hid (FunsIn w p' c.funs) := hF
  have Hk1 : Hid _ := hk1
  have Hb1 : Hid _ := hb1
  have HE : Hid (EncOk 7) := hE
  have HS : Hid _ := hS.below hk1
  have HW : Hid _ := hW.below hk1
  have Hl : Hid (c.bytes.length ≤ 1000000000) := hl
  clear hk1 hb1 hT hF hE hl hS hW
  go_enter Tryd.func3, Tryd.ntmps3
  go_wp2_with fail
  generalize w.alloc (Obj.cells #[Value.slice p c.texts.length cap, Value.slice p' c.funs.length cap'] 25) = w1 at *
  refine (small_any w1).mono ?_
  rintro e1 w2 ⟨q, qcap, q', qcap', rfl, t2, f2, hb2⟩
  have Hb2 : Hid (Below w1.heap.size w1 w2) := hb2
  have Hcall : Hid _ := HE.out smallCd q qcap q' qcap' w2 (ShIn.below HS.out hb2) (WdIn.below HW.out hb2) t2 f2
  clear t2 f2 hb2
  rw [small_enc] at Hcall
  go_wp2_with fail
  refine Calls.mono Hcall.out ?_
  rintro e2 w3 ⟨rfl, hb3⟩
  have hb13 : Below w1.heap.size w1 w3 := Below.then Hb2.out hb3 (Nat.le_refl _)
  have hw3 : Below w.heap.size w w3 := Below.trans Hk1.out (hb13.mono (Below.size Hk1.out))
  obtain ⟨x0, x1, x2⟩ := (CBox.below Hb1.out hb13).cells
  have Hw3 : Hid _ := hw3
  clear hb3 Hcall Hb2
  have Hcall : Hid _ := HE.out c p cap p' cap' w3 (ShIn.below HS.out hb13) (WdIn.below HW.out hb13) (TextsIn.below HT.out hw3) (FunsIn.below HF.out hw3)
  clear hw3
  have HB13 : Hid _ := hb13
  clear hb13
  go_wp2_with fail
  refine Calls.mono Hcall.out ?_
  rintro e3 w4 ⟨rfl, hb4⟩
  have hb14 : Below w1.heap.size w1 w4 := Below.then HB13.out hb4 (Nat.le_refl _)
  have hw4 : Below w.heap.size w w4 := Below.trans Hk1.out (hb14.mono (Below.size Hk1.out))
  clear x0 x1 x2 hb4 Hcall Hw3
  obtain ⟨x0, x1, x2⟩ := (CBox.below Hb1.out hb14).cells
  have Hw4 : Hid _ := hw4
  have Hcall : Hid _ := encode_any c p cap p' cap' w4 (TextsIn.below HT.out hw4) (FunsIn.below HF.out hw4) Hl.out
  clear hw4 hb14
  go_wp2_with fail
  refine Calls.mono Hcall.out ?_
  rintro e4 w5 ⟨rfl, hb5⟩
  have Hw5 : Hid (Below w.heap.size w w5) := Below.then Hw4.out hb5 (Nat.le_refl _)
  clear hb5 x0 x1 x2 Hcall
  go_wp2
  go_ret
  exact ⟨rfl, Hw5.out⟩
end
end Go.Proofs.YtimdjcffmajmnaaDoor
