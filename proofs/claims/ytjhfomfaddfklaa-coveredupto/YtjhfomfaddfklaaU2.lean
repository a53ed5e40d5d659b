/-
  The document's layer matches: a pattern without what it only names (bare); do two ask for the same (alike)?
-/
import Derived.Test.YtjhfomfaddfklaaMH
namespace Go.Proofs.Ytjhfomfaddfklaa
open Go.RowKit Go.Deep
/-- What bare leaves. -/
inductive BarePost (wb : World) (P : Pt) (w : World) (e : Ending) (w' : World) : Prop
  | mk (c : PC) (he : e = .returned c.val) (hP : PtIn wb c P) (hb : Below w.heap.size w w') : BarePost wb P w e w'
theorem bareP_one {k n o a : Int} {s : ByteArray} {l : List Pt} (h : k = 2) (hl : 0 < l.length) : bareP (.mk k n o a s l) = bareP (l[0]'hl) := by
  cases l with
  | nil => cases hl
  | cons x r => exact bareP_as h
theorem below2 (w : World) (a b : Obj) : Below w.heap.size w ((w.alloc a).alloc b) := ((Below.refl _ _).alloc (Nat.le_refl _) a).alloc (by simp) b
/-- All six cells are written anew. -/
def set6 (w : World) (b : Nat) (c : PC) : World := (((((w.setCell ⟨b, 0, none⟩ (.int .i64 c.k)).setCell ⟨b, 1, none⟩ (.int .i64 c.n)).setCell ⟨b, 2, none⟩ (.int .i64 c.o)).setCell ⟨b, 3, none⟩ (.int .i64 c.a)).setCell ⟨b, 4, none⟩ (.string c.s)).setCell ⟨b, 5, none⟩ (.slice c.p c.len c.cap)
theorem PBox.set6 {w : World} {b : Nat} {c : PC} (h : PBox w b c) (c' : PC) : PBox (Ytjhfomfaddfklaa.set6 w b c') b c' := by
  unfold PBox PC.obj at *
  simp [Ytjhfomfaddfklaa.set6, World.setCell, Array.getElem?_modify, h]
theorem set6_size (w : World) (b : Nat) (c : PC) : (set6 w b c).heap.size = w.heap.size := by simp [set6, World.setCell]
theorem Below.set6 {B : Nat} {w w' : World} (h : Below B w w') {b : Nat} (hb : B ≤ b) (c : PC) : Below B w (Ytjhfomfaddfklaa.set6 w' b c) :=
  (((((h.setCell (p := ⟨b, 0, none⟩) hb _).setCell (p := ⟨b, 1, none⟩) hb _).setCell (p := ⟨b, 2, none⟩) hb _).setCell (p := ⟨b, 3, none⟩) hb _).setCell (p := ⟨b, 4, none⟩) hb _).setCell (p := ⟨b, 5, none⟩) hb _
theorem PBox.frozen {w : World} {b : Nat} {c : PC} (h : PBox w b c) (j : Nat) : w.frozen? ⟨b, j, none⟩ = false := by
  unfold PBox PC.obj at h
  simp [World.frozen?, h]
section
set_option maxHeartbeats 4000000
set_option maxRecDepth 100000
theorem bare_any (wb : World) (c : PC) (P : Pt) (hP : PtIn wb c P) : P.good = true → ∀ w, Below wb.heap.size wb w → Calls Try.prog 33 #[c.val] w fun e w' => BarePost wb (bareP P) w e w' := by
  induction hP with
  | mk c kids b o C hl hm hcap hz hw hp hc hr ih =>
    intro hg w hbw
    obtain ⟨k, n, oo, a, s, p, len, cap⟩ := c
    simp only at hl hp hcap hz
    subst hl
    have hP0 : PtIn wb ⟨k, n, oo, a, s, p, kids.length, cap⟩ (.mk k n oo a s kids) := PtIn.mk ⟨k, n, oo, a, s, p, kids.length, cap⟩ kids b o C rfl hm hcap hz hw hp hc hr
    have hbox := pbox_new w ⟨k, n, oo, a, s, p, kids.length, cap⟩
    have hba : Below w.heap.size w (w.alloc (PC.obj ⟨k, n, oo, a, s, p, kids.length, cap⟩)) := (Below.refl _ _).alloc (Nat.le_refl _) _
    simp only [PC.val]
    by_cases h2 : k = 2
    · have hk1 : kids.length = 1 := by
        unfold Pt.good okP at hg
        simp [h2] at hg
        exact hg.1
      have h0 : 0 < kids.length := by omega
      have hg0 : (kids[0]'h0).good = true := by
        unfold Pt.good at hg
        simp only [Bool.and_eq_true] at hg
        exact Pt.goodL_mem.1 hg.2.2 _ (List.getElem_mem h0)
      have hpe : p = some ⟨b, o, none⟩ := hp (fun e => by rw [e] at h0; cases h0)
      subst hpe
      rw [bareP_one h2 h0]
      have hk' : (k == 2) = true := by simpa using h2
      have hw2 := below2 w (PC.obj ⟨k, n, oo, a, s, some ⟨b, o, none⟩, kids.length, cap⟩) (PC.obj PC.any)
      have hbx := pbox_new (w.alloc (PC.obj ⟨k, n, oo, a, s, some ⟨b, o, none⟩, kids.length, cap⟩)) PC.any
      have hbw2 : Below wb.heap.size wb _ := hbw.trans (hw2.mono hbw.size)
      have hc0 := (hc 0 h0).below hbw2
      have Hcall : Hid _ := ih 0 h0 hg0 _ hbw2
      have e1 : (w.alloc (PC.obj ⟨k, n, oo, a, s, some ⟨b, o, none⟩, kids.length, cap⟩)).heap.size = w.heap.size + 1 := by simp
      rw [e1] at hbx
      have Hbx : Hid (PBox _ _ _) := hbx
      have Hw2 : Hid _ := hw2
      have Hbp : Hid (PBox _ _ _) := (pbox_new w ⟨k, n, oo, a, s, some ⟨b, o, none⟩, kids.length, cap⟩).below ((Below.refl _ _).alloc (Nat.le_refl _) (PC.obj PC.any))
      have Hc0 : Hid (Cells6 _ _ _ _) := hc0
      clear ih hr hc hp hP0 hbox hba hbx hw2 hbw2 e1 hc0 h2 hk1
      go_enter Try.func33, Try.ntmps33
      go_upto_region 3 with fail
      change Code.wp _ _ _ _ ((w.alloc (PC.obj ⟨k, n, oo, a, s, some ⟨b, o, none⟩, kids.length, cap⟩)).alloc (PC.obj PC.any))
      generalize (w.alloc (PC.obj ⟨k, n, oo, a, s, some ⟨b, o, none⟩, kids.length, cap⟩)).alloc (PC.obj PC.any) = w2 at *
      generalize C 0 = c0 at *
      obtain ⟨d0, d1, d2, d3, d4, d5⟩ := Hc0.out
      have hlt := Cells6.lt Hc0.out
      obtain ⟨_, _, _, _, _, x5, x6⟩ := PBox.cells' Hbp.out
      simp only [Nat.zero_mul, Nat.add_zero] at d0 d1 d2 d3 d4 d5
      obtain ⟨ck, cn, co, ca, cs, cp, cl, cc⟩ := c0
      simp only [PC.val] at *
      go_wp2_with fail
      refine Calls.mono Hcall.out ?_
      rintro e1 w3 ⟨c3, rfl, hP3, hb3⟩
      have hbx3 := PBox.below Hbx.out hb3
      obtain ⟨y0, y1, y2, y3, y4, y5, y6⟩ := hbx3.cells'
      have z0 := hbx3.frozen 0
      have z1 := hbx3.frozen 1
      have z2 := hbx3.frozen 2
      have z3 := hbx3.frozen 3
      have z4 := hbx3.frozen 4
      have z5 := hbx3.frozen 5
      have hset := hbx3.set6 c3
      have hbl : Below w.heap.size w (set6 w3 (w.heap.size + 1) c3) := Below.set6 (Below.then Hw2.out hb3 (Nat.le_refl _)) (by omega) c3
      obtain ⟨r0, r1, r2, r3, r4, r5, r6⟩ := hset.cells'
      have R : Hid (∀ x : Prop, True) := fun _ => trivial
      clear R d0 d1 d2 d3 d4 d5 x5 Hcall Hbx Hbp Hc0 hbx3 hset
      obtain ⟨ck, cn, co, ca, cs, cp, cl, cc⟩ := c3
      simp only [PC.val, PC.any] at *
      unfold set6 at r0 r1 r2 r3 r4 r5 hbl
      simp only at r0 r1 r2 r3 r4 r5 hbl
      have HR : Hid _ := (⟨r0, r1, r2, r3, r4, r5⟩ : _ ∧ _ ∧ _ ∧ _ ∧ _ ∧ _)
      have HB : Hid _ := hbl
      have HP3 : Hid _ := hP3
      clear r0 r1 r2 r3 r4 r5 hbl hP3 r6
      go_wp2
      obtain ⟨r0, r1, r2, r3, r4, r5⟩ := HR.out
      refine bodyPost_ret (v := .agg #[.int .i64 ck, .int .i64 cn, .int .i64 co, .int .i64 ca, .string cs, .slice cp cl cc]) ?_ rfl (BarePost.mk ⟨ck, cn, co, ca, cs, cp, cl, cc⟩ rfl HP3.out HB.out)
      simp [results, Try.results33, go_sem, r0, r1, r2, r3, r4, r5]
    · by_cases h1 : k = 1
      · rw [bareP_var h1]
        have hk' : (k == 2) = false := by simpa using h2
        have hk1' : (k == 1) = true := by simpa using h1
        clear ih hr hc hp hP0 hbox hba
        go_enter Try.func33, Try.ntmps33
        go_wp2
        exact bodyPost_ret (v := .agg #[.int .i64 0, .int .i64 0, .int .i64 0, .int .i64 0, .string { data := #[] }, .slice none 0 0]) (by simp [results, Try.results33, go_sem]) rfl (BarePost.mk PC.any rfl (PtIn.any wb) (below2 _ _ _))
      · rw [bareP_else h1 h2]
        have hk' : (k == 2) = false := by simpa using h2
        have hk1' : (k == 1) = false := by simpa using h1
        clear ih hr hc hp
        go_enter Try.func33, Try.ntmps33
        go_wp2
        exact bodyPost_ret (v := .agg #[.int .i64 k, .int .i64 n, .int .i64 oo, .int .i64 a, .string s, .slice p kids.length cap]) (by simp [results, Try.results33, go_sem]) rfl (BarePost.mk ⟨k, n, oo, a, s, p, kids.length, cap⟩ rfl hP0 (below2 _ _ _))
end
end Go.Proofs.Ytjhfomfaddfklaa
