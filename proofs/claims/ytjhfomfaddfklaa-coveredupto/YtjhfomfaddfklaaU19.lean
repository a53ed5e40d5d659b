/-
  The law Covered's own functions, two: a kid of a pattern.
-/
import Derived.Test.YtjhfomfaddfklaaU18
namespace Go.Proofs.Ytjhfomfaddfklaa
open Go.RowKit Go.Deep
def kidP (P : Pt) (i : Nat) : Pt := (P.kids[i]?).getD Pt.any
section
set_option maxHeartbeats 4000000
set_option maxRecDepth 100000
theorem kid_any (wb : World) (c : PC) (P : Pt) (hP : PtIn wb c P) (i : Nat) (w : World) (hbw : Below wb.heap.size wb w) : Calls Try.prog 16 #[c.val, .int .i64 i] w fun e w' => BarePost wb (kidP P i) w e w' := by
  cases hP with
  | mk c kids b o C hl hm hcap hz hw hp hc hr =>
    obtain ⟨k, n, oo, a, s, p, len, cap⟩ := c
    simp only at hl hp hcap hz
    subst hl
    simp only [PC.val]
    by_cases hi : i < kids.length
    · have hpe : p = some ⟨b, o, none⟩ := hp (fun e => by rw [e] at hi; cases hi)
      subst hpe
      have hk : kidP (.mk k n oo a s kids) i = kids[i] := by simp [kidP, Pt.kids, hi]
      rw [hk]
      have hw2 := below2 w (PC.obj ⟨k, n, oo, a, s, some ⟨b, o, none⟩, kids.length, cap⟩) (PC.obj PC.any)
      have hbx := pbox_new (w.alloc (PC.obj ⟨k, n, oo, a, s, some ⟨b, o, none⟩, kids.length, cap⟩)) PC.any
      have hc0 := (hc i hi).below (hbw.trans (hw2.mono hbw.size))
      have hr0 : Hid _ := hr i hi
      have e1 : (w.alloc (PC.obj ⟨k, n, oo, a, s, some ⟨b, o, none⟩, kids.length, cap⟩)).heap.size = w.heap.size + 1 := by simp
      rw [e1] at hbx
      have Hbx : Hid (PBox _ _ _) := hbx
      have Hw2 : Hid _ := hw2
      have Hbp : Hid (PBox _ _ _) := (pbox_new w ⟨k, n, oo, a, s, some ⟨b, o, none⟩, kids.length, cap⟩).below ((Below.refl _ _).alloc (Nat.le_refl _) (PC.obj PC.any))
      have Hc0 : Hid (Cells6 _ _ _ _) := hc0
      clear hr hc hp hbx hw2 e1 hc0 hk
      go_enter Try.func16, Try.ntmps16
      go_upto_region 2 with fail
      change Code.wp _ _ _ _ ((w.alloc (PC.obj ⟨k, n, oo, a, s, some ⟨b, o, none⟩, kids.length, cap⟩)).alloc (PC.obj PC.any))
      generalize (w.alloc (PC.obj ⟨k, n, oo, a, s, some ⟨b, o, none⟩, kids.length, cap⟩)).alloc (PC.obj PC.any) = w2 at *
      generalize C i = c0 at *
      obtain ⟨d0, d1, d2, d3, d4, d5⟩ := Hc0.out
      have hlt := Cells6.lt Hc0.out
      obtain ⟨_, _, _, _, _, x5, x6⟩ := PBox.cells' Hbp.out
      have hbx3 := Hbx.out
      obtain ⟨y0, y1, y2, y3, y4, y5, y6⟩ := PBox.cells' hbx3
      have z0 := PBox.frozen hbx3 0
      have z1 := PBox.frozen hbx3 1
      have z2 := PBox.frozen hbx3 2
      have z3 := PBox.frozen hbx3 3
      have z4 := PBox.frozen hbx3 4
      have z5 := PBox.frozen hbx3 5
      have hset := PBox.set6 hbx3 c0
      have hbl : Below w.heap.size w (set6 w2 (w.heap.size + 1) c0) := Below.set6 Hw2.out (by omega) c0
      obtain ⟨r0, r1, r2, r3, r4, r5, r6⟩ := hset.cells'
      clear Hbx Hbp Hc0 hbx3 hset
      obtain ⟨ck, cn, co, ca, cs, cp, cl, cc⟩ := c0
      simp only [PC.any] at *
      unfold set6 at r0 r1 r2 r3 r4 r5 hbl
      simp only at r0 r1 r2 r3 r4 r5 hbl
      have HR : Hid _ := (⟨r0, r1, r2, r3, r4, r5⟩ : _ ∧ _ ∧ _ ∧ _ ∧ _ ∧ _)
      have HB : Hid _ := hbl
      clear r0 r1 r2 r3 r4 r5 hbl r6
      go_wp2
      obtain ⟨r0, r1, r2, r3, r4, r5⟩ := HR.out
      refine bodyPost_ret (v := .agg #[.int .i64 ck, .int .i64 cn, .int .i64 co, .int .i64 ca, .string cs, .slice cp cl cc]) ?_ rfl (BarePost.mk ⟨ck, cn, co, ca, cs, cp, cl, cc⟩ rfl hr0.out HB.out)
      simp [results, Try.results16, go_sem, r0, r1, r2, r3, r4, r5]
    · have hk : kidP (.mk k n oo a s kids) i = Pt.any := by simp [kidP, Pt.kids, hi]
      rw [hk]
      have hd : decide ((i : Int) < (kids.length : Int)) = false := by simp; omega
      clear hr hc hp hk
      go_enter Try.func16, Try.ntmps16
      go_wp2
      exact bodyPost_ret (v := PC.any.val) (by simp [results, Try.results16, go_sem, PC.val, PC.any]) rfl (BarePost.mk PC.any rfl (PtIn.any wb) (below2 _ _ _))
end
end Go.Proofs.Ytjhfomfaddfklaa
