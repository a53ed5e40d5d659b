/-
  The law Decodes: the program's Decode answers as the document's.
-/
import Derived.Test.YtimdjcffmajmnaaDoorD14
import Derived.Test.YtimdjcffmajmnaaDoorX34
import Derived.Test.YtimdjcffmajmnaaDoorC17
import Derived.Test.YtimdjcffmajmnaaDoorC21
namespace Go.Proofs.YtimdjcffmajmnaaDoor
open Go.RowKit Go.Deep
section
set_option maxHeartbeats 8000000
set_option maxRecDepth 100000
inductive DecPost2 (w : World) (D : Cd × Int × Int) (e : Ending) (w' : World) : Prop
  | mk (p : Option Addr) (cap : Nat) (p' : Option Addr) (cap' : Nat) (he : e = .returned (.tuple #[.agg #[.slice p D.1.texts.length cap, .slice p' D.1.funs.length cap'], .agg #[.int .i64 D.2.1, .int .i64 D.2.2]])) (hT : TextsIn w' p D.1.texts) (hF : FunsIn w' p' D.1.funs) (hb : Below w.heap.size w w') : DecPost2 w D e w'
theorem dec_post2 {w : World} {S : ByteArray} {D : Cd × Int × Int} (hD : decR S = D) {e : Ending} {w' : World} (h : DecPost w S e w') : DecPost2 w D e w' := by
  subst hD
  obtain ⟨p, cap, p', cap', h1, h2, h3, h4⟩ := h
  exact ⟨p, cap, p', cap', h1, h2, h3, h4⟩
theorem DecOk.two {n : Nat} (h : DecOk n) {S : ByteArray} {D : Cd × Int × Int} (hD : decR S = D) (w : World) (hS : ShIn w) (hE : EtIn w) : Calls Tryd.prog n #[.string S] w fun e w' => DecPost2 w D e w' := (h S w hS hE).mono fun _ _ hp => dec_post2 hD hp
theorem dec_two11 {S : ByteArray} {D : Cd × Int × Int} (hD : decR S = D) (w : World) : Calls Tryd.prog 11 #[.string S] w fun e w' => DecPost2 w D e w' := (decode_any w S).mono fun _ _ hp => dec_post2 hD hp
theorem decodes_any (hD : DecOk 10) (S : ByteArray) (w : World) (hS : ShIn w) (hE : EtIn w) :
    Calls Tryd.prog 4 #[.string S] w fun e w' => e = .returned (.bool true) ∧ Below w.heap.size w w' := by
  obtain ⟨D, hDD⟩ : ∃ D, decR S = D := ⟨_, rfl⟩
  have Hcall : Hid _ := hD.two hDD w hS hE
  have HDD : Hid (decR S = D) := hDD
  clear hD hDD hS hE
  go_enter Tryd.func4, Tryd.ntmps4
  go_wp2_with fail
  refine Calls.mono Hcall.out ?_
  rintro e1 w1 ⟨p, cap, p', cap', rfl, t1, f1, hb1⟩
  obtain ⟨b1, b2, b3⟩ := boxes2 w1 p D.1.texts.length cap p' D.1.funs.length cap' D.2.1 D.2.2
  have T1 : Hid (TextsIn _ p D.1.texts) := t1.below b3
  have F1 : Hid (FunsIn _ p' D.1.funs) := f1.below b3
  have B1 : Hid (CBox _ _ _ _ _ _ _ _) := b1
  have B2 : Hid (EBox _ _ _ _) := b2
  have B3 : Hid (Below w.heap.size w _) := Below.then hb1 b3 (Nat.le_refl _)
  clear t1 f1 hb1 b1 b2 b3
  go_upto_region 2 with fail
  generalize (w1.alloc (Obj.cells #[Value.slice p D.1.texts.length cap, Value.slice p' D.1.funs.length cap'] 25)).alloc (Obj.cells #[Value.int IntKind.i64 D.2.1, Value.int IntKind.i64 D.2.2] 34) = w2 at *
  go_wp2_with fail
  refine (dec_two11 HDD.out w2).mono ?_
  rintro e2 w3 ⟨q, qcap, q', qcap', rfl, t3, f3, hb3⟩
  obtain ⟨b1, b2, b3⟩ := boxes2 w3 q D.1.texts.length qcap q' D.1.funs.length qcap' D.2.1 D.2.2
  have h24 := Below.then hb3 b3 (Nat.le_refl _)
  have T3 : Hid (TextsIn _ q D.1.texts) := t3.below b3
  have F3 : Hid (FunsIn _ q' D.1.funs) := f3.below b3
  have C1 : Hid (CBox _ _ _ _ _ _ _ _) := b1
  have C2 : Hid (EBox _ _ _ _) := b2
  have T1' : Hid (TextsIn _ p D.1.texts) := TextsIn.below T1.out h24
  have F1' : Hid (FunsIn _ p' D.1.funs) := FunsIn.below F1.out h24
  have B1' : Hid (CBox _ _ _ _ _ _ _ _) := CBox.below B1.out h24
  have B2' : Hid (EBox _ _ _ _) := EBox.below B2.out h24
  have B4 : Hid (Below w.heap.size w _) := Below.then B3.out h24 (Nat.le_refl _)
  clear t3 f3 hb3 b1 b2 b3 h24 T1 F1 B1 B2 B3
  go_upto_region 3 with fail
  generalize (w3.alloc (Obj.cells #[Value.slice q D.1.texts.length qcap, Value.slice q' D.1.funs.length qcap'] 25)).alloc (Obj.cells #[Value.int IntKind.i64 D.2.1, Value.int IntKind.i64 D.2.2] 34) = w4 at *
  obtain ⟨x0, x1, x2⟩ := CBox.cells B1'.out
  obtain ⟨y0, y1, y2⟩ := CBox.cells C1.out
  have Hcall : Hid _ := same_row D.1 p cap p' cap' q qcap q' qcap' w4 T1'.out T3.out F1'.out F3.out
  go_wp2_with fail
  refine Calls.mono Hcall.out ?_
  rintro e4 w5 ⟨rfl, hb5⟩
  have e1 := EBox.below B2'.out hb5
  have e2 := EBox.below C2.out hb5
  obtain ⟨z0, z1, _⟩ := e1.cells
  obtain ⟨z2, z3, _⟩ := e2.cells
  have l1 := e1.lt
  have l2 := e2.lt
  have B5 : Hid (Below w.heap.size w w5) := Below.then B4.out hb5 (Nat.le_refl _)
  have hg := guard34
  have he := eq34 D.2.1 D.2.2
  clear x0 x1 x2 y0 y1 y2 Hcall hb5 e1 e2
  go_wp2
  go_ret
  exact ⟨rfl, B5.out⟩
end
end Go.Proofs.YtimdjcffmajmnaaDoor
