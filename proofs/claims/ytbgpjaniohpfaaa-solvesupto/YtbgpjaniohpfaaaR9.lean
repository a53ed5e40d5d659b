/-
  The document's own solver: a type with all of its variables replaced (Full).
-/
import Derived.Test.YtbgpjaniohpfaaaR5
import Derived.Test.YtbgpjaniohpfaaaK19
namespace Go.Proofs.Ytbgpjaniohpfaaa
open Go.RowKit Go.Deep
/-- Variables replaced whole, and what is left of them says of itself what is known. -/
def Ty.fu (f : Int → Ty) (q : Int → Int) (T : Ty) : Ty := (T.app f).app (mkv q)
/-- What Full leaves. -/
inductive FullPost (wb : World) (f : Int → Ty) (q : Int → Int) (T : Ty) (w : World) (e' : Ending) (w' : World) : Prop
  | mk (k m : Int) (s : ByteArray) (e : Int) (l : List Ty) (p : Option Addr) (cap : Nat) (he : e' = .returned (.agg #[.int .i64 k, .int .i64 m, .string s, .int .i64 e, .slice p l.length cap])) (hT : T.fu f q = .mk k m s e l)
      (hA : TyAt (fun b => b < wb.heap.size ∨ w.heap.size ≤ b) w' [.int .i64 k, .int .i64 m, .string s, .int .i64 e, .slice p l.length cap] (.mk k m s e l)) (hb : Below w.heap.size w w') : FullPost wb f q T w e' w'
theorem FullPost.parts {wb : World} {f : Int → Ty} {q : Int → Int} {T : Ty} {w : World} {e' : Ending} {w' : World} (h : FullPost wb f q T w e' w') : ∃ k m s e l p cap, e' = .returned (.agg #[.int .i64 k, .int .i64 m, .string s, .int .i64 e, .slice p (l : List Ty).length cap]) ∧ T.fu f q = .mk k m s e l ∧ TyAt (fun b => b < wb.heap.size ∨ w.heap.size ≤ b) w' [.int .i64 k, .int .i64 m, .string s, .int .i64 e, .slice p l.length cap] (.mk k m s e l) ∧ Below w.heap.size w w' := by
  cases h with
  | mk k m s e l p cap he hT hA hb => exact ⟨k, m, s, e, l, p, cap, he, hT, hA, hb⟩
theorem empty_of {s : ByteArray} (h : s.size = 0) : s = { data := #[] } := by
  cases s with
  | mk d =>
    have : d = #[] := Array.eq_empty_of_size_eq_zero h
    rw [this]
theorem fu_top {f : Int → Ty} {q : Int → Int} {k m : Int} {s : ByteArray} {e : Int} {l : List Ty} {T : Ty} (h : OnTop f k m s e l (T.app f)) (hs : (Ty.mk k m s e l).okm noMarks) (hq : k = 0 → e = q m) : T.fu f q = .mk k m s e (l.map (Ty.fu f q)) := by
  unfold Ty.fu
  by_cases hk : k = 0
  · subst hk
    obtain ⟨rfl, hX⟩ := h.var rfl
    rw [hX, Ty.app_vr, hq rfl]
    have hs := hs.1
    unfold Ty.shaped at hs
    rw [if_pos rfl] at hs
    simp only [Bool.and_eq_true, decide_eq_true_eq, beq_iff_eq] at hs
    rw [empty_of hs.1.1.1.2]
    rfl
  · rw [h.arg hk, Ty.app_mk hk, List.map_map]
    rfl
set_option maxHeartbeats 4000000 in
set_option maxRecDepth 100000 in
theorem fullR_any (wb : World) (sp bM bQ n9 nq : Nat) (M : Int → Option Ty) (f : Int → Ty) (q : Int → Int) (V : List Int) : ∀ (N : Nat) (w : World) (k0 m0 : Int) (s0 : ByteArray) (e0 : Int) (l0 : List Ty) (p0 : Option Addr) (cap0 : Nat), ((Ty.mk k0 m0 s0 e0 l0).app f).count ≤ N → ((Ty.mk k0 m0 s0 e0 l0).app f).count ≤ 400 →
    Rq wb w sp bM bQ n9 nq M f q V → TyIn wb [.int .i64 k0, .int .i64 m0, .string s0, .int .i64 e0, .slice p0 l0.length cap0] (.mk k0 m0 s0 e0 l0) → (Ty.mk k0 m0 s0 e0 l0).okm noMarks →
    Calls Try.prog 27 #[.pointer (some ⟨sp, 0, none⟩), .agg #[.int .i64 k0, .int .i64 m0, .string s0, .int .i64 e0, .slice p0 l0.length cap0]] w fun e' w' => FullPost wb f q (.mk k0 m0 s0 e0 l0) w e' w' := by
  intro N
  induction N with
  | zero => intro w k0 m0 s0 e0 l0 p0 cap0 hc; have := Full.count_pos ((Ty.mk k0 m0 s0 e0 l0).app f); omega
  | succ N ih =>
    intro w k0 m0 s0 e0 l0 p0 cap0 hcount h400 hS hT hsh
    have hb0 := ((Below.refl w.heap.size w).alloc (Nat.le_refl _) (Obj.cells #[Value.int IntKind.i64 k0, Value.int IntKind.i64 m0, Value.string s0, Value.int IntKind.i64 e0, Value.slice p0 l0.length cap0] 33)).alloc (by simp) (Obj.cells #[Value.int IntKind.i64 0, Value.int IntKind.i64 0, Value.string { data := #[] }, Value.int IntKind.i64 0, Value.slice none 0 0] 33)
    have hA0 := (Box.new w (.int .i64 k0) (.int .i64 m0) (.string s0) (.int .i64 e0) (.slice p0 l0.length cap0)).kp (Kp.alloc [] _ (Obj.cells #[Value.int IntKind.i64 0, Value.int IntKind.i64 0, Value.string { data := #[] }, Value.int IntKind.i64 0, Value.slice none 0 0] 33)) (by simp)
    have hR0 := Box.new (w.alloc (Obj.cells #[Value.int IntKind.i64 k0, Value.int IntKind.i64 m0, Value.string s0, Value.int IntKind.i64 e0, Value.slice p0 l0.length cap0] 33)) (.int .i64 0) (.int .i64 0) (.string { data := #[] }) (.int .i64 0) (.slice none 0 0)
    rw [heap_size_alloc] at hR0
    have Hcall : Hid _ := topR_any wb _ sp bM bQ n9 nq M f q V k0 m0 s0 e0 l0 p0 cap0 (hS.below hb0) hT hsh
    have HS : Hid (Rq wb w sp bM bQ n9 nq M f q V) := hS
    have Hb0 : Hid _ := hb0
    have HA0 : Hid _ := hA0
    have HR0 : Hid _ := hR0
    have Hih : Hid _ := ih
    have Hcount : Hid (((Ty.mk k0 m0 s0 e0 l0).app f).count ≤ N + 1) := hcount
    have H400 : Hid (((Ty.mk k0 m0 s0 e0 l0).app f).count ≤ 400) := h400
    have hlt := hS.lt
    have hbs := hS.sv.base.size
    have Hbw : Hid (Below wb.heap.size wb w) := hS.sv.base
    obtain ⟨i0, hi0, hzz0, hzz1, hzz2⟩ := info_parts infos33
    clear hb0 hA0 hR0 ih hT hsh hS hcount h400
    go_enter Try.func27, Try.ntmps27
    go_wp2_with fail
    generalize (w.alloc (Obj.cells #[Value.int IntKind.i64 k0, Value.int IntKind.i64 m0, Value.string s0, Value.int IntKind.i64 e0, Value.slice p0 l0.length cap0] 33)).alloc (Obj.cells #[Value.int IntKind.i64 0, Value.int IntKind.i64 0, Value.string { data := #[] }, Value.int IntKind.i64 0, Value.slice none 0 0] 33) = w0 at *
    refine Calls.mono Hcall.out ?_
    rintro e1 w1 hp
    cases hp with
    | mk k n s e l p cap he ht hs hf hu hb hq =>
    subst he
    have hX := OnTop.of HS.out.sv.agr hf hu hs
    have Hput : Hid ((Ty.mk k0 m0 s0 e0 l0).fu f q = .mk k n s e (l.map (Ty.fu f q))) := fu_top hX hs hq
    have hBx := Box.kp (X := []) HA0.out (Kp.of_below hb) (by simp)
    have HRx : Hid _ := Box.kp (X := []) HR0.out (Kp.of_below hb) (by simp)
    have hb1 : Below w.heap.size w w1 := Below.trans Hb0.out (hb.mono (Below.size Hb0.out))
    obtain ⟨pe, ce, hcs, hl1, hl2, hel⟩ := ht.elem
    obtain ⟨rfl, rfl⟩ : p = pe ∧ cap = ce := by simpa using hcs
    have Hel : Hid _ := hel
    have HX : Hid (OnTop f k n s e l ((Ty.mk k0 m0 s0 e0 l0).app f)) := hX
    have HshA : Hid (∀ i (hi : i < l.length), (l[i]'hi).okm noMarks) := fun i hi => okm_arg hs i hi
    have Hwk : Hid _ := shaped_wf ht
    have Hss : Hid (s.size ≤ maxLen) := tyIn_name ht
    have hl400 : l.length ≤ 400 := by
      by_cases hk : k = 0
      · rw [(hX.var hk).1]; exact Nat.zero_le _
      · have hc := H400.out
        rw [hX.arg hk, Ty.count] at hc
        have h1 : ∀ r : List Ty, r.length ≤ Ty.countL r := by
          intro r
          induction r with
          | nil => exact Nat.zero_le _
          | cons a r ih =>
            have := Full.count_pos a
            unfold Ty.countL
            simp only [List.length_cons]
            omega
        have := h1 (l.map (Ty.app f))
        rw [List.length_map] at this
        omega
    unfold maxLen at hl1
    clear hcs hel hX hf hu hs ht hb Hcall HA0 HR0 Hb0 hq
    go_wp2_with (refine wpList_store5 rfl _ _ rfl rfl _ rfl rfl hBx (one5 _ _ _ _ _ _ _) ?_; intro w2 hA2 hk2)
    have HA2 : Hid (Box w2 w.heap.size (.int .i64 k) (.int .i64 n) (.string s) (.int .i64 e) (.slice p l.length cap)) := hA2
    have HR2 : Hid (Box w2 (w.heap.size + 1) (.int .i64 0) (.int .i64 0) (.string { data := #[] }) (.int .i64 0) (.slice none 0 0)) := Box.kp HRx.out hk2 (by simp)
    have HK2 : Hid (Below w.heap.size w w2) := hb1.trans (hk2.below hb1.size (by simp))
    have hz2 : w.heap.size + 2 ≤ w2.heap.size := HR2.out.lt
    clear hA2 hk2 hBx HRx hb1
    go_loopg [5, 6] l.length (fun g v0 iv wr => ∃ (i : Nat) (v : Value), v = v0 ∧ iv = .int .i64 i ∧ i ≤ l.length ∧ g = l.length - i ∧ Hid (∃ (L : List (List Value × Ty)), L.length = i ∧ L.map (·.2) = (l.take i).map (Ty.fu f q) ∧ wr.ownsRow w2.heap.size 33 5 v L.length (rowCells L) ∧ TysAt (fun b => (b < wb.heap.size ∨ w2.heap.size ≤ b) ∧ some b ≠ v.ownBlock) wr L ∧ Below w2.heap.size w2 wr))
    case atStart => exact ⟨0, _, rfl, rfl, by omega, by omega, [], rfl, rfl, World.ownsRow_nil _ _ _ _, (fun x hx => by cases hx), Below.refl _ _⟩
    case round =>
      obtain ⟨i, v5, hv5, rfl, hi1, rfl, HR⟩ := hrel
      subst hv5
      obtain ⟨L, r1, r2, r3, r4, r6⟩ := HR.out
      clear HR
      have hA := HA2.out.kp (X := []) (Kp.of_below r6) (by simp)
      obtain ⟨x0, x1, x2, x3, x4⟩ := hA.cells
      have hWr : Below w.heap.size w wr := HK2.out.trans (r6.mono (by omega))
      have hBr : Below wb.heap.size wb wr := Hbw.out.trans (hWr.mono hbs)
      have R1 : Hid (L.length = i) := r1
      have R2 : Hid (L.map (·.2) = (l.take i).map (Ty.fu f q)) := r2
      have R3 : Hid (wr.ownsRow w2.heap.size 33 5 v5 L.length (rowCells L)) := r3
      have R4 : Hid (TysAt (fun b => (b < wb.heap.size ∨ w2.heap.size ≤ b) ∧ some b ≠ v5.ownBlock) wr L) := r4
      have R6 : Hid (Below w2.heap.size w2 wr) := r6
      have hz6 := r6.size
      clear r1 r2 r3 r4 r6 hA
      by_cases hi : i < l.length
      · have hi' : (i : Int) < l.length := by omega
        obtain ⟨b, o, k2, n2, s2, e2, l2, p2, cap2, rfl, hli, g0, g1, g2, g3, g4, hbl, hty⟩ := Hel.out i hi
        rw [← hBr.cell (p := ⟨b, o + i * 5, none⟩) hbl] at g0
        rw [← hBr.cell (p := ⟨b, o + i * 5 + 1, none⟩) hbl] at g1
        rw [← hBr.cell (p := ⟨b, o + i * 5 + 2, none⟩) hbl] at g2
        rw [← hBr.cell (p := ⟨b, o + i * 5 + 3, none⟩) hbl] at g3
        rw [← hBr.cell (p := ⟨b, o + i * 5 + 4, none⟩) hbl] at g4
        have hbr' := Nat.lt_of_lt_of_le hbl hBr.size
        have htk : (l.take (i + 1)).map (Ty.fu f q) = (l.take i).map (Ty.fu f q) ++ [(l[i]'hi).fu f q] := by
          rw [List.take_succ_eq_append_getElem hi, List.map_append]
          rfl
        have hls := HX.out.less i hi
        have hsa := HshA.out i hi
        rw [hli] at htk hty hls hsa
        have hcall := Hih.out wr k2 n2 s2 e2 l2 p2 cap2 (by have := Hcount.out; omega) (by have := H400.out; omega) (HS.out.below hWr) hty hsa
        have Hcall : Hid _ := hcall
        have Htk : Hid ((l.take (i + 1)).map (Ty.fu f q) = (l.take i).map (Ty.fu f q) ++ [(Ty.mk k2 n2 s2 e2 l2).fu f q]) := htk
        have HBr : Hid (Below wb.heap.size wb wr) := hBr
        clear hcall htk hty hli hBr hWr hls hsa
        go_wp2_with fail
        refine Calls.mono Hcall.out ?_
        rintro e10 w6 hp
        obtain ⟨k3, m3, s3, e3, l3, p3, cap3, rfl, hT3, hA3, hb6⟩ := hp.parts
        clear hp Hcall g0 g1 g2 g3 g4 x0 x1 x2 x3 x4
        have hz66 := hb6.size
        have hrow6 : w6.ownsRow w2.heap.size 33 5 v5 L.length (rowCells L) := ownsRow.kp (X := []) R3.out (Kp.of_below hb6) (by simp)
        have hlen := R1.out
        have hll : L.length + 1 ≤ 400 := by omega
        have Hlen : Hid (L.length = i) := hlen
        have HT3 : Hid ((Ty.mk k2 n2 s2 e2 l2).fu f q = .mk k3 m3 s3 e3 l3) := hT3
        have HA3 : Hid _ := hA3
        have Hb6 : Hid (Below wr.heap.size wr w6) := hb6
        clear hlen hT3 hA3 hb6
        have hrow7 := (hrow6.alloc (Obj.cells #[.int .i64 k3, .int .i64 m3, .string s3, .int .i64 e3, .slice p3 l3.length cap3] 33)).alloc (Obj.cells #[.int .i64 k3, .int .i64 m3, .string s3, .int .i64 e3, .slice p3 l3.length cap3] 33)
        go_wp2_with (at_builtin; refine wpList_append_own_at _ rfl _ _ 31 rfl w2.heap.size 33 i0 (.agg #[.int .i64 0, .int .i64 0, .string { data := #[] }, .int .i64 0, .slice none 0 0]) 5 64 slice31 hi0 hzz0 hzz1 hzz2 rfl (by decide) _ _ _ rfl hrow7 ⟨w6.heap.size + 1, 0, none⟩ 1 1 [.int .i64 k3, .int .i64 m3, .string s3, .int .i64 e3, .slice p3 l3.length cap3] rfl rfl ?cc ?oc (by unfold maxLen; omega) (by omega) (by simp; omega) ?_)
        case cc =>
          have := cells5_new (w6.alloc (Obj.cells #[.int .i64 k3, .int .i64 m3, .string s3, .int .i64 e3, .slice p3 l3.length cap3] 33)) (.int .i64 k3) (.int .i64 m3) (.string s3) (.int .i64 e3) (.slice p3 l3.length cap3) 33
          rw [heap_size_alloc] at this
          exact this
        case oc => exact one5_mem _ _ _ _ _ _ _
        intro v' w8 ho8 hg8 _ hat8
        have hv5 : ∀ g, v5.ownBlock = some g → w2.heap.size ≤ g ∧ g < wr.heap.size := fun g hg => R3.out.lt g hg
        have h67 : Below w6.heap.size w6 ((w6.alloc (Obj.cells #[.int .i64 k3, .int .i64 m3, .string s3, .int .i64 e3, .slice p3 l3.length cap3] 33)).alloc (Obj.cells #[.int .i64 k3, .int .i64 m3, .string s3, .int .i64 e3, .slice p3 l3.length cap3] 33)) := ((Below.refl _ _).alloc (Nat.le_refl _) _).alloc (by simp) _
        have hat8' : v'.ownBlock = v5.ownBlock ∨ v'.ownBlock = some ((w6.alloc (Obj.cells #[.int .i64 k3, .int .i64 m3, .string s3, .int .i64 e3, .slice p3 l3.length cap3] 33)).alloc (Obj.cells #[.int .i64 k3, .int .i64 m3, .string s3, .int .i64 e3, .slice p3 l3.length cap3] 33)).heap.size := by
          rw [heap_size_alloc, heap_size_alloc]
          simpa using hat8
        have hTs : TysAt (fun b => (b < wb.heap.size ∨ w2.heap.size ≤ b) ∧ some b ≠ v'.ownBlock) w8 (L ++ [([.int .i64 k3, .int .i64 m3, .string s3, .int .i64 e3, .slice p3 l3.length cap3], .mk k3 m3 s3 e3 l3)]) := by
          refine TysAt.append2 R4.out (TyAt.keep (P := fun b => b < wb.heap.size ∨ wr.heap.size ≤ b) HA3.out fun b hb _ => ⟨rfl, by omega, fun hh => ?_⟩) Hb6.out h67 hg8 hat8'
          have := hv5 b hh.symm
          omega
        have hb8 : Below w2.heap.size w2 w8 := by
          have h1 : Below w2.heap.size w2 w6 := R6.out.trans (Below.mono Hb6.out hz6)
          have h2 : Below w2.heap.size w2 _ := h1.trans (h67.mono (by omega))
          exact h2.grown hg8 h2.size (fun g hg => (hv5 g hg).1)
        have Q : Hid (∃ (L : List (List Value × Ty)), L.length = i + 1 ∧ L.map (·.2) = (l.take (i + 1)).map (Ty.fu f q) ∧ w8.ownsRow w2.heap.size 33 5 v' L.length (rowCells L) ∧ TysAt (fun b => (b < wb.heap.size ∨ w2.heap.size ≤ b) ∧ some b ≠ v'.ownBlock) w8 L ∧ Below w2.heap.size w2 w8) := by
          refine ⟨_, by simp; exact Hlen.out, ?_, ?_, hTs, hb8⟩
          · rw [List.map_append, Htk.out, R2.out, HT3.out]
            rfl
          · rw [rowCells_snoc, List.length_append]
            exact ho8
        clear ho8 hg8 hat8 hat8' hTs hb8 hrow6 hrow7 HA3 HT3 Hb6 R1 R2 R3 R4 R6 Htk h67
        go_wp2
        go_roundg (l.length - (i + 1))
        case measure => omega
        case rel => exact ⟨i + 1, _, rfl, by first | rfl | (congr 1; omega) | go_num, by omega, rfl, Q⟩
      · have hi' : ¬ (i : Int) < l.length := by omega
        have r2 := R2.out
        rw [List.take_of_length_le (by omega)] at r2
        have hTs' : TysAt (fun b => b < wb.heap.size ∨ w2.heap.size ≤ b) wr L := fun y hy => (R4.out y hy).keep fun b hb _ => ⟨rfl, hb.1⟩
        obtain ⟨pr, capr, hv, hTy⟩ := row_type R3.out hTs' (fun g hg => .inr (R3.out.lt g hg).1) Hwk.out.1 Hwk.out.2.1 Hwk.out.2.2 Hss.out
        subst hv
        rw [r2] at hTy
        have hLl : (L.map (·.2)).length = l.length := by rw [r2]; simp
        have HTy : Hid _ := hTy
        have fr4 := (HA2.out.kp (X := []) (Kp.of_below R6.out) (by simp)).frozen 4
        have hR8 : Box (wr.setCell ⟨w.heap.size, 4, none⟩ (.slice pr l.length capr)) (w.heap.size + 1) (.int .i64 0) (.int .i64 0) (.string { data := #[] }) (.int .i64 0) (.slice none 0 0) := (HR2.out.kp (X := []) (Kp.of_below R6.out) (by simp)).kp (Kp.setCell (X := [w.heap.size]) wr ⟨w.heap.size, 4, none⟩ (by simp) _) (by simp)
        have HR8 : Hid _ := hR8
        have HWr : Hid (Below w.heap.size w wr) := hWr
        clear hTy hR8 r2 hTs' hBr hWr R1 R2 R3 R4
        generalize (L.map (·.2)).length = nr at *
        subst hLl
        go_wp2_with (refine wpList_store5 rfl _ _ rfl rfl _ rfl rfl HR8.out (one5 _ _ _ _ _ _ _) ?_; intro w9 hR9 hk9)
        obtain ⟨v0, v1, v2, v3, v4⟩ := hR9.cells
        have hk79 : Kp [w.heap.size, w.heap.size + 1] wr w9 := ((Kp.setCell (X := [w.heap.size]) wr ⟨w.heap.size, 4, none⟩ (by simp) (.slice pr l.length capr)).mono (by simp)).trans (hk9.mono (by simp))
        have hW9 : Below w.heap.size w w9 := HWr.out.trans (hk79.below HWr.out.size (by simp))
        exact bodyPost_ret (v := .agg #[.int .i64 k, .int .i64 n, .string s, .int .i64 e, .slice pr l.length capr]) (by simp [results, Try.results27, go_sem, v0, v1, v2, v3, v4]) rfl (FullPost.mk k n s e (l.map (Ty.fu f q)) pr capr (by rw [List.length_map]) Hput.out (TyAt.keep (P := fun b => b < wb.heap.size ∨ w2.heap.size ≤ b) HTy.out fun b hb hlt => ⟨hk79.block b hlt (by simp; omega), by omega⟩) hW9)
end Go.Proofs.Ytbgpjaniohpfaaa
