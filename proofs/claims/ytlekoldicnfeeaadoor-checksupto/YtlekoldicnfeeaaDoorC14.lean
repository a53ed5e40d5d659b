/-
  The document's layer code: Check, whole.
-/
import Derived.Test.YtlekoldicnfeeaaDoorC13
namespace Go.Proofs.YtlekoldicnfeeaaDoor
open Go.RowKit Go.Deep
def checkFrom (nt : Nat) (fs : List Fn) : List Fn → Nat → Int → Int × Int
  | [], _, _ => (0, 0)
  | f :: r, i, at_ => if (funP nt fs f (decide (i = 0))).1 = 0 then checkFrom nt fs r (i + 1) (at_ + f.ins.length) else ((funP nt fs f (decide (i = 0))).1, at_ + (funP nt fs f (decide (i = 0))).2)
/-- Can a code be run: no fault, or the first one. -/
def Cd.chk (c : Cd) : Int × Int := match c.funs with
  | [] => (17, 0)
  | f :: _ => if 60000 < c.funs.length then (17, 0) else if f.free = 0 then checkFrom c.texts.length c.funs c.funs 0 0 else (17, 0)
theorem drop_check (nt : Nat) (fs l : List Fn) (i : Nat) (hi : i < l.length) (a : Int) : checkFrom nt fs (l.drop i) i a = (if (funP nt fs (l[i]'hi) (decide (i = 0))).1 = 0 then checkFrom nt fs (l.drop (i + 1)) (i + 1) (a + (l[i]'hi).ins.length) else ((funP nt fs (l[i]'hi) (decide (i = 0))).1, a + (funP nt fs (l[i]'hi) (decide (i = 0))).2)) := by
  rw [List.drop_eq_getElem_cons hi, checkFrom]
theorem flowFrom_range (fs : List Fn) : ∀ (l : List In) (i : Nat) (L : List Sn), 0 ≤ (flowFrom fs l i L).2 ∧ (flowFrom fs l i L).2 ≤ i + l.length
  | [], i, L => by
    rw [flowFrom]
    split <;> simp
  | x :: r, i, L => by
    rw [flowFrom]
    split
    · have h := flowFrom_range fs r (i + 1) (flowP fs x i L).2
      simp only [List.length_cons]
      omega
    · simp only [List.length_cons]
      omega
theorem operFrom_range (nt nf : Nat) (f : Fn) (main : Bool) : ∀ (l : List In) (i : Nat) (r : Int × Int), operFrom nt nf f main l i = some r → 0 ≤ r.2 ∧ r.2 ≤ i + l.length
  | [], i, r, h => by cases h
  | x :: t, i, r, h => by
    rw [operFrom] at h
    split at h
    · have h := operFrom_range nt nf f main t (i + 1) r h
      simp only [List.length_cons]
      omega
    · cases h
      simp only [List.length_cons]
      omega
theorem funP_range (nt : Nat) (fs : List Fn) (f : Fn) (main : Bool) : 0 ≤ (funP nt fs f main).2 ∧ (funP nt fs f main).2 ≤ f.ins.length := by
  unfold funP
  cases h : operFrom nt fs.length f main f.ins 0 with
  | some r =>
    have := operFrom_range nt fs.length f main f.ins 0 r h
    simp only
    omega
  | none =>
    have := flowFrom_range fs f.ins 0 (startL f.ins.length)
    simp only
    omega
/-- The cells of a fault. -/
def EBox (w : World) (b : Nat) (k a : Int) : Prop := w.heap[b]? = some (.cells #[.int .i64 k, .int .i64 a] 34)
theorem EBox.lt {w : World} {b : Nat} {k a : Int} (h : EBox w b k a) : b < w.heap.size := (Array.getElem?_eq_some_iff.1 h).1
theorem EBox.kp {X : List Nat} {w w' : World} {b : Nat} {k a : Int} (h : EBox w b k a) (hk : Kp X w w') (hx : b ∉ X) : EBox w' b k a := (hk.block b h.lt hx).trans h
theorem EBox.cells {w : World} {b : Nat} {k a : Int} (h : EBox w b k a) : w.cell? ⟨b, 0, none⟩ = some (.int .i64 k) ∧ w.cell? ⟨b, 1, none⟩ = some (.int .i64 a) ∧ (∀ j, w.frozen? ⟨b, j, none⟩ = false) := by
  unfold EBox at h
  refine ⟨?_, ?_, fun j => ?_⟩ <;> simp [World.cell?, World.frozen?, h]
theorem EBox.set2 {w : World} {b : Nat} {k a : Int} (h : EBox w b k a) (k' a' : Int) : EBox ((w.setCell ⟨b, 0, none⟩ (.int .i64 k')).setCell ⟨b, 1, none⟩ (.int .i64 a')) b k' a' := by
  unfold EBox at *
  simp [World.setCell, Array.getElem?_modify, h]
theorem Cd.ok_parts {c : Cd} (h : c.ok = true) : isTwo c.texts.length = true ∧ isTwo c.funs.length = true ∧ ∀ f ∈ c.funs, f.ok = true := by
  unfold Cd.ok at h
  simp only [Bool.and_eq_true, List.all_eq_true] at h
  exact ⟨h.1, h.2.2.1, h.2.2.2⟩
section
set_option maxHeartbeats 8000000
set_option maxRecDepth 100000
theorem check_any (c : Cd) (p : Option Addr) (cap : Nat) (p' : Option Addr) (cap' : Nat) (w : World) (hF : FunsIn w p' c.funs) (hok : c.ok = true) :
    Calls Tryd.prog 15 #[.agg #[.slice p c.texts.length cap, .slice p' c.funs.length cap']] w fun e w' => e = .returned (.agg #[.int .i64 c.chk.1, .int .i64 c.chk.2]) ∧ Below w.heap.size w w' := by
  obtain ⟨ts, fs⟩ := c
  obtain ⟨k1, k2, k3⟩ := Cd.ok_parts hok
  simp only at *
  have hn1 : ts.length ≤ 65535 := by have := two_range k1; omega
  have hn2 : fs.length ≤ 65535 := by have := two_range k2; omega
  obtain ⟨w0, hw0⟩ : ∃ w0, w0 = (w.alloc (Obj.cells #[Value.slice p ts.length cap, Value.slice p' fs.length cap'] 25)).alloc (Obj.cells #[.int .i64 0, .int .i64 0] 34) := ⟨_, rfl⟩
  have Hb : Hid (Below w.heap.size w w0) := by
    unfold Hid
    rw [hw0]
    exact ((Below.refl w.heap.size w).alloc (Nat.le_refl _) _).alloc (by simp) _
  have Hcb : Hid (CBox w0 w.heap.size p ts.length cap p' fs.length cap') := by
    unfold Hid CBox
    rw [hw0, Below.heap_alloc _ _ _ (by simp)]
    exact (MapKept.heap_alloc w _).1
  have Heb : Hid (EBox w0 (w.heap.size + 1) 0 0) := by
    unfold Hid EBox
    rw [hw0]
    have := (MapKept.heap_alloc (w.alloc (Obj.cells #[Value.slice p ts.length cap, Value.slice p' fs.length cap'] 25)) (Obj.cells #[.int .i64 0, .int .i64 0] 34)).1
    simpa using this
  have hsz1 : w.heap.size + 1 < w0.heap.size := EBox.lt Heb.out
  have hsz2 : w.heap.size < w0.heap.size := by omega
  have Hw0 : Hid (w0 = (w.alloc (Obj.cells #[Value.slice p ts.length cap, Value.slice p' fs.length cap'] 25)).alloc (Obj.cells #[.int .i64 0, .int .i64 0] 34)) := hw0
  have HF : Hid (FunsIn w p' fs) := hF
  have Hfs : Hid (∀ g ∈ fs, g.ok = true) := k3
  obtain ⟨R, hR⟩ : ∃ R, R = Cd.chk ⟨ts, fs⟩ := ⟨_, rfl⟩
  rw [← hR]
  have HR : Hid (R = Cd.chk ⟨ts, fs⟩) := hR
  clear hw0 hF k1 k2 k3 hok hR
  go_enter Tryd.func15, Tryd.ntmps15
  go_upto_region 1 with fail
  rw [← Hw0.out]
  clear Hw0
  obtain ⟨c0, c1, c2⟩ := CBox.cells Hcb.out
  obtain ⟨e0, e1, ef⟩ := EBox.cells Heb.out
  have ef0 := ef 0
  have ef1 := ef 1
  have Hret : Hid (EBox ((w0.setCell ⟨w.heap.size + 1, 0, none⟩ (.int .i64 17)).setCell ⟨w.heap.size + 1, 1, none⟩ (.int .i64 0)) (w.heap.size + 1) 17 0) := EBox.set2 Heb.out 17 0
  have HretB : Hid (Below w.heap.size w ((w0.setCell ⟨w.heap.size + 1, 0, none⟩ (.int .i64 17)).setCell ⟨w.heap.size + 1, 1, none⟩ (.int .i64 0))) := (Below.setCell Hb.out (p := ⟨w.heap.size + 1, 0, none⟩) (by simp) _).setCell (p := ⟨w.heap.size + 1, 1, none⟩) (by simp) _
  by_cases h0 : fs.length = 0
  · have hfs0 : fs = [] := List.eq_nil_of_length_eq_zero h0
    subst hfs0
    have hR : R = (17, 0) := HR.out
    subst hR
    obtain ⟨z0, z1, _⟩ := EBox.cells Hret.out
    go_wp2
    exact bodyPost_ret (v := .agg #[.int .i64 17, .int .i64 0]) (by simp [results, Tryd.results15, go_sem, z0, z1]) rfl ⟨rfl, HretB.out⟩
  · have h0' : ((fs.length : Int) == 0) = false := beq_eq_false_iff_ne.mpr (by omega)
    have hpos : 0 < fs.length := by omega
    obtain ⟨b1, o1, q1, qc1, rfl, hb1, hfc1, _⟩ := (FunsIn.below HF.out Hb.out).get 0 hpos
    have hchk : R = if 60000 < fs.length then (17, 0) else if (fs[0]'hpos).free = 0 then checkFrom ts.length fs fs 0 0 else (17, 0) := by
      rw [HR.out]
      cases fs with
      | nil => simp at hpos
      | cons f r => rfl
    by_cases h6 : 60000 < fs.length
    · have h6' : (60000 : Int) < fs.length := by omega
      rw [if_pos h6] at hchk
      subst hchk
      obtain ⟨z0, z1, _⟩ := EBox.cells Hret.out
      clear hfc1
      go_wp2
      exact bodyPost_ret (v := .agg #[.int .i64 17, .int .i64 0]) (by simp [results, Tryd.results15, go_sem, z0, z1]) rfl ⟨rfl, HretB.out⟩
    · have h6' : ¬ (60000 : Int) < fs.length := by omega
      rw [if_neg h6] at hchk
      have d0 := hfc1.c0
      simp only [Nat.zero_mul, Nat.add_zero] at d0
      by_cases hfr : (fs[0]'hpos).free = 0
      · rw [if_pos hfr] at hchk
        have Hchk : Hid (checkFrom ts.length fs fs 0 0 = R) := hchk.symm
        rw [hfr] at d0
        clear hfc1 hchk hfr Hret HretB HR
        go_wp2_with fail
        go_loopg [3, 4, 5, 6] fs.length (fun g av iv _ _ wr => ∃ (i : Nat) (a : Int), av = .int .i64 a ∧ iv = .int .i64 i ∧ i ≤ fs.length ∧ g = fs.length - i ∧ 0 ≤ a ∧ a ≤ i * 65535 ∧ Hid (checkFrom ts.length fs (fs.drop i) i a = R ∧ Below w0.heap.size w0 wr))
        case atStart => exact ⟨0, 0, rfl, rfl, by omega, by omega, by omega, by omega, by simpa using Hchk.out, Below.refl _ _⟩
        case round =>
          clear c0 c1 e0 e1 ef ef0 ef1 d0 Hchk
          obtain ⟨i, a, rfl, rfl, hi1, rfl, ha0, ha1, HQ⟩ := hrel
          obtain ⟨c0, c1, c2'⟩ := CBox.cells (CBox.below Hcb.out HQ.out.2)
          by_cases hi : i < fs.length
          · have hi' : (i : Int) < fs.length := by omega
            obtain ⟨b2, o2, q2, qc2, heq, hb2, hfc2, hI2⟩ := (FunsIn.below HF.out Hb.out).get i hi
            obtain ⟨rfl, rfl⟩ : b1 = b2 ∧ o1 = o2 := by
              cases heq
              exact ⟨rfl, rfl⟩
            clear heq
            have hlen : (fs[i]'hi).ins.length ≤ 65535 := by
              have := two_range (Fn.ok_parts (Hfs.out _ (List.getElem_mem hi))).2.2.1
              omega
            have hrg := funP_range ts.length fs (fs[i]'hi) (decide (i = 0))
            have HFw : Hid (∀ wx, Below w0.heap.size w0 wx → FunsIn wx (some ⟨b1, o1, none⟩) fs ∧ InsIn wx q2 (fs[i]'hi).ins) := fun wx hx => ⟨FunsIn.below HF.out (Below.trans Hb.out (hx.mono (Below.size Hb.out))), hI2.below hx⟩
            have Hcall : Hid (∀ wx, Below w0.heap.size w0 wx → Calls Tryd.prog 28 #[.agg #[.slice p ts.length cap, .slice (some ⟨b1, o1, none⟩) fs.length cap'], .agg #[.int .i64 (fs[i]'hi).free, .int .i64 (fs[i]'hi).slots, .slice q2 (fs[i]'hi).ins.length qc2], .bool (decide (i = 0))] wx fun e w' => e = .returned (.tuple #[.int .i64 (funP ts.length fs (fs[i]'hi) (decide (i = 0))).1, .int .i64 (funP ts.length fs (fs[i]'hi) (decide (i = 0))).2]) ∧ Below wx.heap.size wx w') := fun wx hx => fun_any p ts.length cap (some ⟨b1, o1, none⟩) fs cap' (fs[i]'hi) q2 qc2 (decide (i = 0)) wx (HFw.out wx hx).1 (HFw.out wx hx).2 (Hfs.out _ (List.getElem_mem hi)) Hfs.out ⟨hn1, hn2⟩
            have Hcl : Hid (∀ wx, Below w0.heap.size w0 wx → b1 < wx.heap.size ∧ wx.cell? ⟨w.heap.size, 0, none⟩ = some (.slice p ts.length cap) ∧ wx.cell? ⟨w.heap.size, 1, none⟩ = some (.slice (some ⟨b1, o1, none⟩) fs.length cap') ∧ wx.cell? ⟨b1, o1 + i * 3, none⟩ = some (.int .i64 (fs[i]'hi).free) ∧ wx.cell? ⟨b1, o1 + i * 3 + 1, none⟩ = some (.int .i64 (fs[i]'hi).slots) ∧ wx.cell? ⟨b1, o1 + i * 3 + 2, none⟩ = some (.slice q2 (fs[i]'hi).ins.length qc2) ∧ w.heap.size < wx.heap.size) := fun wx hx => by
              obtain ⟨m0, m1, m2⟩ := CBox.cells (CBox.below Hcb.out hx)
              have hf := hfc2.below hb2 hx
              exact ⟨Nat.lt_of_lt_of_le hb2 hx.size, m0, m1, hf.c0, hf.c1, hf.c2, m2⟩
            have q1 := HQ.out.1
            rw [drop_check ts.length fs fs i hi a] at q1
            have Hq1 : Hid _ := q1
            have Hwr : Hid (Below w0.heap.size w0 wr) := HQ.out.2
            have hdec : ((i : Int) == 0) = decide (i = 0) := by
              by_cases h : i = 0
              · subst h; rfl
              · rw [decide_eq_false h]; simp; omega
            clear q1 HQ HFw hI2 hfc2
            generalize (fs[i]'hi) = f at *
            generalize funP ts.length fs f (decide (i = 0)) = ev at *
            obtain ⟨ek, ea⟩ := ev
            simp only at *
            go_upto_region 7 with fail
            refine region_in (C := fun wx => Below w0.heap.size w0 wx) (by kernel_rfl) (by kernel_rfl) (Below.drew Hwr.out) ?_
            repeat
              refine wpQuiet_step (fun K hK => ?_)
              first
                | (go_simp; refine hK _ ?_; clear hK K)
                | (rw [if_pos (by rfl)]; apply Exists.intro; refine ⟨fun wx hwx => ?_, hK _ ?_⟩; (obtain ⟨kb, m0, m1, m2, m3, m4, m5⟩ := Hcl.out wx hwx; unfold Oper.quietAt; go_simp; first | done | rfl | exact ⟨rfl, rfl⟩ | (refine Calls.mono (Hcall.out _ hwx) ?_; rintro e9 w9 ⟨rfl, hb9⟩; exact ⟨rfl, Below.then hwx hb9 (Nat.le_refl _)⟩)); clear hK K; go_simp)
            refine wpQuiet_nil ?_
            intro w9 hw9
            have Hw9 : Hid (Below w0.heap.size w0 w9) := hw9
            obtain ⟨kb, m0, m1, m2, m3, m4, m5⟩ := Hcl.out _ hw9
            clear Hcall Hcl hw9
            by_cases hek : ek = 0
            · have hek' : (ek != 0) = false := by simpa using hek
              have Q : Hid (checkFrom ts.length fs (fs.drop (i + 1)) (i + 1) (a + f.ins.length) = R ∧ Below w0.heap.size w0 w9) := ⟨by have := Hq1.out; rw [if_pos hek] at this; exact this, Hw9.out⟩
              clear hek Hq1 Hw9
              go_wp2
              go_roundg (fs.length - (i + 1))
              case measure => omega
              case rel => exact ⟨i + 1, a + f.ins.length, by first | rfl | (congr 1; omega) | go_num, by first | rfl | (congr 1; omega) | go_num, by omega, rfl, by omega, by omega, Q⟩
            · have hek' : (ek != 0) = true := by simpa using hek
              have hR : (ek, a + ea) = R := by have := Hq1.out; rw [if_neg hek] at this; exact this
              have hwe : IntKind.i64.wrap (a + ea) = a + ea := IntWalk.i64_in _ (by omega)
              have heb : EBox w9 (w.heap.size + 1) 0 0 := EBox.kp Heb.out (Kp.of_below (X := []) Hw9.out) (by simp)
              obtain ⟨y0, y1, yf⟩ := heb.cells
              have yf0 := yf 0
              have yf1 := yf 1
              have hyl := heb.lt
              have hz := heb.set2 ek (a + ea)
              obtain ⟨z0, z1, _⟩ := hz.cells
              have HB : Hid (Below w.heap.size w ((w9.setCell ⟨w.heap.size + 1, 0, none⟩ (.int .i64 ek)).setCell ⟨w.heap.size + 1, 1, none⟩ (.int .i64 (a + ea)))) := (Below.setCell (Below.trans Hb.out (Below.mono Hw9.out (Below.size Hb.out))) (p := ⟨w.heap.size + 1, 0, none⟩) (by simp) _).setCell (p := ⟨w.heap.size + 1, 1, none⟩) (by simp) _
              clear heb hz yf hek Hq1
              subst hR
              go_wp2
              exact bodyPost_ret (v := .agg #[.int .i64 ek, .int .i64 (a + ea)]) (by simp [results, Tryd.results15, go_sem, z0, z1]) rfl ⟨rfl, HB.out⟩
          · have hi' : ¬ (i : Int) < fs.length := by omega
            have hR : ((0 : Int), (0 : Int)) = R := by
              have := HQ.out.1
              rw [drop_done fs i hi] at this
              exact this
            have heb : EBox wr (w.heap.size + 1) 0 0 := EBox.kp Heb.out (Kp.of_below (X := []) HQ.out.2) (by simp)
            obtain ⟨y0, y1, yf⟩ := heb.cells
            have yf0 := yf 0
            have yf1 := yf 1
            have hyl := heb.lt
            have hz := heb.set2 0 0
            obtain ⟨z0, z1, _⟩ := hz.cells
            have HB : Hid (Below w.heap.size w ((wr.setCell ⟨w.heap.size + 1, 0, none⟩ (.int .i64 0)).setCell ⟨w.heap.size + 1, 1, none⟩ (.int .i64 0))) := (Below.setCell (Below.trans Hb.out (Below.mono HQ.out.2 (Below.size Hb.out))) (p := ⟨w.heap.size + 1, 0, none⟩) (by simp) _).setCell (p := ⟨w.heap.size + 1, 1, none⟩) (by simp) _
            clear heb hz yf HQ
            subst hR
            go_wp2
            exact bodyPost_ret (v := .agg #[.int .i64 0, .int .i64 0]) (by simp [results, Tryd.results15, go_sem, z0, z1]) rfl ⟨rfl, HB.out⟩
      · rw [if_neg hfr] at hchk
        have hfr' : ((fs[0]'hpos).free != 0) = true := by simpa using hfr
        subst hchk
        obtain ⟨z0, z1, _⟩ := EBox.cells Hret.out
        generalize (fs[0]'hpos).free = fr at *
        clear hfc1 hfr
        go_wp2
        exact bodyPost_ret (v := .agg #[.int .i64 17, .int .i64 0]) (by simp [results, Tryd.results15, go_sem, z0, z1]) rfl ⟨rfl, HretB.out⟩
end
end Go.Proofs.YtlekoldicnfeeaaDoor
