/-
  The law Covered's own functions, nine: does a value match a pattern (has)?
-/
import Derived.Test.YtjhfomfaddfklaaMG
namespace Go.Proofs.Ytjhfomfaddfklaa
open Go.RowKit Go.Deep
mutual
/-- What has says. -/
def hasP : Pt → Pt → Bool
  | .mk k n _ _ _ kids, v => if k = 1 then true else if k = 2 then hasA kids v else if n ≠ v.n ∨ k ≠ v.k ∨ kids.length ≠ v.kids.length then false else hasL kids v.kids
def hasA : List Pt → Pt → Bool
  | [], _ => false
  | x :: _, v => hasP x v
def hasL : List Pt → List Pt → Bool
  | [], _ => true
  | _ :: _, [] => false
  | x :: r, v :: vs => hasP x v && hasL r vs
end
theorem hasL_drop (l m : List Pt) (i : Nat) (hi : i < l.length) (hj : i < m.length) : hasL (l.drop i) (m.drop i) = (hasP (l[i]'hi) (m[i]'hj) && hasL (l.drop (i + 1)) (m.drop (i + 1))) := by
  rw [List.drop_eq_getElem_cons hi, List.drop_eq_getElem_cons hj, hasL]
theorem hasA_one {l : List Pt} (h : 0 < l.length) (v : Pt) : hasA l v = hasP (l[0]'h) v := by
  cases l with
  | nil => cases h
  | cons x r => rfl
theorem ne_of_beq {a b : Int} (h : a ≠ b) : (a != b) = true := by simpa using h
section
set_option maxHeartbeats 8000000
set_option maxRecDepth 100000
theorem has_any (wb : World) (c : PC) (P : Pt) (hP : PtIn wb c P) : P.good = true → ∀ (d : PC) (V : Pt), PtIn wb d V → ∀ (w : World), Below wb.heap.size wb w → Calls Try.prog 11 #[c.val, d.val] w fun e w' => e = .returned (.bool (hasP P V)) ∧ Below w.heap.size w w' := by
  induction hP with
  | mk c kids b o C hl hm hcap hz hw hp hc hr ih =>
    intro hg d V hV w hbw
    obtain ⟨k, n, oo, a, s, p, len, cap⟩ := c
    simp only at hl hp hcap hw
    subst hl
    have hm' := hm
    unfold maxLen at hm'
    obtain ⟨v1, v2, _, _, v5, _, _⟩ := hV.parts
    have hrow := hV.row (Below.refl wb.heap.size wb)
    obtain ⟨dk, dn, do', da, ds, dp, dl, dc⟩ := d
    simp only at v1 v2 v5
    have HV : Hid (PtIn wb ⟨dk, dn, do', da, ds, dp, dl, dc⟩ V) := hV
    have Hw2 : Hid (Below _ w _) := below2 w (PC.obj ⟨k, n, oo, a, s, p, kids.length, cap⟩) (PC.obj ⟨dk, dn, do', da, ds, dp, dl, dc⟩)
    have Hb1 : Hid (PBox _ _ _) := (pbox_new w ⟨k, n, oo, a, s, p, kids.length, cap⟩).below ((Below.refl _ _).alloc (Nat.le_refl _) (PC.obj ⟨dk, dn, do', da, ds, dp, dl, dc⟩))
    have hb2 := pbox_new (w.alloc (PC.obj ⟨k, n, oo, a, s, p, kids.length, cap⟩)) ⟨dk, dn, do', da, ds, dp, dl, dc⟩
    have e1 : (w.alloc (PC.obj ⟨k, n, oo, a, s, p, kids.length, cap⟩)).heap.size = w.heap.size + 1 := by simp
    rw [e1] at hb2
    have Hb2 : Hid (PBox _ _ _) := hb2
    clear hb2 e1
    have Hih : Hid _ := ih
    have Hc : Hid (∀ i, i < kids.length → Cells6 wb b (o + i * 6) (C i)) := hc
    have Hp : Hid (kids ≠ [] → p = some ⟨b, o, none⟩) := hp
    have Hbw : Hid (Below wb.heap.size wb w) := hbw
    have Hrow : Hid (RowAt wb wb dp V.kids) := hrow
    have Hg : Hid (∀ x ∈ kids, x.good = true) := (good_parts hg).2.2
    have hok := (good_parts hg).1
    obtain ⟨R, hR⟩ : ∃ R, hasP (.mk k n oo a s kids) V = R := ⟨_, rfl⟩
    have HR : Hid ((if k = 1 then true else if k = 2 then hasA kids V else if n ≠ V.n ∨ k ≠ V.k ∨ kids.length ≠ V.kids.length then false else hasL kids V.kids) = R) := by unfold Hid; rw [← hR, hasP]
    rw [hR]
    clear hR ih hr hc hp hbw hcap hz hw hm hrow hV hg
    simp only [PC.val] at *
    go_enter Try.func11, Try.ntmps11
    go_upto_block 0 with fail
    change Code.wp _ _ _ _ ((w.alloc (PC.obj ⟨k, n, oo, a, s, p, kids.length, cap⟩)).alloc (PC.obj ⟨dk, dn, do', da, ds, dp, dl, dc⟩))
    generalize (w.alloc (PC.obj ⟨k, n, oo, a, s, p, kids.length, cap⟩)).alloc (PC.obj ⟨dk, dn, do', da, ds, dp, dl, dc⟩) = w2 at *
    by_cases h1 : k = 1
    · have e : R = true := by rw [← HR.out, if_pos h1]
      subst e
      have h1' : (k == 1) = true := by simpa using h1
      clear HR h1
      go_wp2
      go_ret
      exact ⟨rfl, Hw2.out⟩
    · have h1' : (k == 1) = false := by simpa using h1
      by_cases h2 : k = 2
      · have h2' : (k == 2) = true := by simpa using h2
        have hk1 : kids.length = 1 := by
          unfold okP at hok
          simpa [h2] using hok
        have h0 : 0 < kids.length := by omega
        have hpe : p = some ⟨b, o, none⟩ := Hp.out (fun e => by rw [e] at h0; cases h0)
        subst hpe
        have e : R = hasP (kids[0]'h0) V := by rw [← HR.out, if_neg h1, if_pos h2, hasA_one h0]
        have hwx : ∀ wx, Below w2.heap.size w2 wx → Below wb.heap.size wb wx := fun wx hx => Below.trans Hbw.out ((Below.then Hw2.out hx (Nat.le_refl _)).mono Hbw.out.size)
        have Hcl : Hid (∀ wx, Below w2.heap.size w2 wx → _) := fun wx hx => And.intro (PBox.cells' (PBox.below Hb1.out hx)) (And.intro (PBox.cells' (PBox.below Hb2.out hx)) ((Hc.out 0 h0).below (hwx wx hx)))
        have Hcall : Hid _ := Hih.out 0 h0 (Hg.out _ (List.getElem_mem h0)) _ V HV.out w2.drew (hwx _ (Below.refl _ _).drew)
        rw [← e] at Hcall
        clear HR h1 h2 e hwx hok Hih Hc Hp Hg Hrow
        generalize C 0 = c0 at *
        obtain ⟨ck, cn, co, ca, cs, cp, cl, cc⟩ := c0
        simp only [Nat.zero_mul, Nat.add_zero] at Hcl Hcall
        go_upto_region 5 with fail
        have hCd : Below w2.heap.size w2 w2.drew := (Below.refl _ _).drew
        refine region_any (C := fun wx => Below w2.heap.size w2 wx) (by kernel_rfl) ?_
        refine anyIn_read (i := 0) rfl (by kernel_rfl) (by kernel_rfl) (by kernel_rfl) (fun _ _ _ _ h => h) ?_
        apply Exists.intro
        refine ⟨Or.inl ⟨by rfl, fun wx hwx => ?_⟩, ?_⟩
        (obtain ⟨⟨f0, f1, f2, f3, f4, f5, f6⟩, ⟨g0, g1, g2, g3, g4, g5, g6⟩, ⟨d0, d1, d2, d3, d4, d5⟩⟩ := Hcl.out wx hwx; have hbl := World.block_lt_of_cell? _ _ d0; go_simp; first | done | with_reducible rfl)
        refine anyIn_read (i := 1) rfl (by kernel_rfl) (by kernel_rfl) (by kernel_rfl) (fun _ _ _ _ h => h) ?_
        apply Exists.intro
        refine ⟨Or.inl ⟨by rfl, fun wx hwx => ?_⟩, ?_⟩
        (obtain ⟨⟨f0, f1, f2, f3, f4, f5, f6⟩, ⟨g0, g1, g2, g3, g4, g5, g6⟩, ⟨d0, d1, d2, d3, d4, d5⟩⟩ := Hcl.out wx hwx; have hbl := World.block_lt_of_cell? _ _ d0; go_simp; first | done | with_reducible rfl)
        refine anyIn_read (i := 2) rfl (by kernel_rfl) (by kernel_rfl) (by kernel_rfl) (fun _ _ _ _ h => h) ?_
        apply Exists.intro
        refine ⟨Or.inl ⟨by rfl, fun wx hwx => ?_⟩, ?_⟩
        (obtain ⟨⟨f0, f1, f2, f3, f4, f5, f6⟩, ⟨g0, g1, g2, g3, g4, g5, g6⟩, ⟨d0, d1, d2, d3, d4, d5⟩⟩ := Hcl.out wx hwx; have hbl := World.block_lt_of_cell? _ _ d0; go_simp; first | done | with_reducible rfl)
        refine anyIn_read (i := 3) rfl (by kernel_rfl) (by kernel_rfl) (by kernel_rfl) (fun _ _ _ _ h => h) ?_
        apply Exists.intro
        refine ⟨Or.inl ⟨by rfl, fun wx hwx => ?_⟩, ?_⟩
        (obtain ⟨⟨f0, f1, f2, f3, f4, f5, f6⟩, ⟨g0, g1, g2, g3, g4, g5, g6⟩, ⟨d0, d1, d2, d3, d4, d5⟩⟩ := Hcl.out wx hwx; have hbl := World.block_lt_of_cell? _ _ d0; go_simp; first | done | with_reducible rfl)
        refine anyIn_read (i := 4) rfl (by kernel_rfl) (by kernel_rfl) (by kernel_rfl) (fun _ _ _ _ h => h) ?_
        apply Exists.intro
        refine ⟨Or.inl ⟨by rfl, fun wx hwx => ?_⟩, ?_⟩
        (obtain ⟨⟨f0, f1, f2, f3, f4, f5, f6⟩, ⟨g0, g1, g2, g3, g4, g5, g6⟩, ⟨d0, d1, d2, d3, d4, d5⟩⟩ := Hcl.out wx hwx; have hbl := World.block_lt_of_cell? _ _ d0; go_simp; first | done | with_reducible rfl)
        refine anyIn_one (i := 5) hCd rfl (by kernel_rfl) (fun K hK => ?_)
        go_simp
        refine Calls.mono Hcall.out ?_
        rintro e9 w6 ⟨rfl, hb6⟩
        refine hK _ _ ?_
        clear hK K
        have hC6 : Below w2.heap.size w2 w6 := Below.then hCd hb6 (Nat.le_refl _)
        refine anyIn_read (i := 6) rfl (by kernel_rfl) (by kernel_rfl) (by kernel_rfl) (fun _ _ _ _ h => h) ?_
        apply Exists.intro
        refine ⟨Or.inl ⟨by rfl, fun wx hwx => ?_⟩, ?_⟩
        (go_simp; first | done | with_reducible rfl)
        refine anyIn_done hC6 (by kernel_rfl) ?_
        go_wp2
        go_ret
        exact ⟨rfl, Below.then Hw2.out hC6 (Nat.le_refl _)⟩
      · have h2' : (k == 2) = false := by simpa using h2
        go_upto_region 6 with fail
        obtain ⟨x0, x1, x2, x3, x4, x5, x6⟩ := PBox.cells' Hb1.out
        obtain ⟨y0, y1, y2, y3, y4, y5, y6⟩ := PBox.cells' Hb2.out
        simp only at x0 x1 x2 x3 x4 x5 y0 y1 y2 y3 y4 y5
        by_cases hn : n = dn
        · by_cases hk : k = dk
          · by_cases hlen : kids.length = dl
            · have hn' : (n != dn) = false := by simpa using hn
              have hk' : (k != dk) = false := by simpa using hk
              have hl' : ((kids.length : Int) != (dl : Int)) = false := by simp; omega
              have hvl : V.kids.length = kids.length := by omega
              have HR2 : Hid (hasL (kids.drop 0) (V.kids.drop 0) = R) := by
                unfold Hid
                rw [← HR.out, if_neg h1, if_neg h2, if_neg (by omega)]
                simp
              have Hlen : Hid (kids.length = dl) := hlen
              have Hvl : Hid (V.kids.length = kids.length) := hvl
              clear HR h1 h2 hn hk hok v1 v2 v5 hlen hvl
              go_upto_block 1 with fail
              clear x0 x1 x2 x3 x4 x5 x6 y0 y1 y2 y3 y4 y5 y6
              go_wp2_with fail
              go_loopg [5] kids.length (fun g iv wr => ∃ (i : Nat), iv = .int .i64 i ∧ i ≤ kids.length ∧ g = kids.length - i ∧ Hid (hasL (kids.drop i) (V.kids.drop i) = R ∧ Below w2.heap.size w2 wr))
              case atStart => exact ⟨0, rfl, by omega, by omega, HR2.out, Below.refl _ _⟩
              case round =>
                obtain ⟨i, rfl, hi1, rfl, HJ⟩ := hrel
                obtain ⟨t1, t2⟩ := HJ.out
                clear HJ
                obtain ⟨_, _, _, _, _, x5, x6⟩ := PBox.cells' (PBox.below Hb1.out t2)
                simp only at x5
                by_cases hi : i < kids.length
                · have hi' : (i : Int) < kids.length := by omega
                  have hpe := Hp.out (fun e => by rw [e] at hi; cases hi)
                  subst hpe
                  have hj : i < V.kids.length := by have := Hvl.out; omega
                  have hjd : (i : Int) < dl := by have := Hlen.out; omega
                  obtain ⟨vb, vo, vc, hvp, hvc, hvi⟩ := Hrow.out.get i hj
                  subst hvp
                  have hwx : ∀ wx, Below wr.heap.size wr wx → Below wb.heap.size wb wx := fun wx hx => Below.trans Hbw.out ((Below.then Hw2.out (Below.then t2 hx (Nat.le_refl _)) (Nat.le_refl _)).mono Hbw.out.size)
                  have Hcl : Hid (∀ wx, Below wr.heap.size wr wx → _) := fun wx hx => And.intro (PBox.cells' (PBox.below Hb1.out (Below.then t2 hx (Nat.le_refl _)))) (And.intro (PBox.cells' (PBox.below Hb2.out (Below.then t2 hx (Nat.le_refl _)))) (And.intro ((Hc.out i hi).below (hwx wx hx)) (hvc.below (hwx wx hx))))
                  have Hcall : Hid _ := Hih.out i hi (Hg.out _ (List.getElem_mem hi)) vc _ hvi wr.drew (hwx _ (Below.refl _ _).drew)
                  rw [hasL_drop kids V.kids i hi hj] at t1
                  have T1 : Hid _ := t1
                  have T2 : Hid (Below w2.heap.size w2 wr) := t2
                  generalize hasP (kids[i]'hi) (V.kids[i]'hj) = hb at *
                  clear t1 t2 hwx hvc hvi
                  generalize C i = ci at *
                  obtain ⟨ek, en, eo, ea, es, ep, el, ec⟩ := ci
                  obtain ⟨gk, gn, go', ga, gs, gp, gl, gc⟩ := vc
                  simp only at Hcl Hcall
                  go_upto_region 11 with fail
                  have hCd : Below wr.heap.size wr wr.drew := (Below.refl _ _).drew
                  go_cut [6] from 47 to 57 (fun bv wx => Hid (bv = .bool hb ∧ Below wr.heap.size wr wx))
                  case first =>
                    refine region_any (C := fun wx => Below wr.heap.size wr wx) (by kernel_rfl) ?_
                    refine anyIn_read (i := 0) rfl (by kernel_rfl) (by kernel_rfl) (by kernel_rfl) (fun _ _ _ _ h => h) ?_
                    apply Exists.intro
                    refine ⟨Or.inl ⟨by rfl, fun wx hwx => ?_⟩, ?_⟩
                    (obtain ⟨⟨f0, f1, f2, f3, f4, f5, f6⟩, ⟨g0, g1, g2, g3, g4, g5, g6⟩, ⟨d0, d1, d2, d3, d4, d5⟩, ⟨h0, h1, h2, h3, h4, h5⟩⟩ := Hcl.out wx hwx; have hbl := World.block_lt_of_cell? _ _ d0; have hbl2 := World.block_lt_of_cell? _ _ h0; go_simp; first | done | with_reducible rfl)
                    refine anyIn_read (i := 1) rfl (by kernel_rfl) (by kernel_rfl) (by kernel_rfl) (fun _ _ _ _ h => h) ?_
                    apply Exists.intro
                    refine ⟨Or.inl ⟨by rfl, fun wx hwx => ?_⟩, ?_⟩
                    (obtain ⟨⟨f0, f1, f2, f3, f4, f5, f6⟩, ⟨g0, g1, g2, g3, g4, g5, g6⟩, ⟨d0, d1, d2, d3, d4, d5⟩, ⟨h0, h1, h2, h3, h4, h5⟩⟩ := Hcl.out wx hwx; have hbl := World.block_lt_of_cell? _ _ d0; have hbl2 := World.block_lt_of_cell? _ _ h0; go_simp; first | done | with_reducible rfl)
                    refine anyIn_read (i := 2) rfl (by kernel_rfl) (by kernel_rfl) (by kernel_rfl) (fun _ _ _ _ h => h) ?_
                    apply Exists.intro
                    refine ⟨Or.inl ⟨by rfl, fun wx hwx => ?_⟩, ?_⟩
                    (obtain ⟨⟨f0, f1, f2, f3, f4, f5, f6⟩, ⟨g0, g1, g2, g3, g4, g5, g6⟩, ⟨d0, d1, d2, d3, d4, d5⟩, ⟨h0, h1, h2, h3, h4, h5⟩⟩ := Hcl.out wx hwx; have hbl := World.block_lt_of_cell? _ _ d0; have hbl2 := World.block_lt_of_cell? _ _ h0; go_simp; first | done | with_reducible rfl)
                    refine anyIn_read (i := 3) rfl (by kernel_rfl) (by kernel_rfl) (by kernel_rfl) (fun _ _ _ _ h => h) ?_
                    apply Exists.intro
                    refine ⟨Or.inl ⟨by rfl, fun wx hwx => ?_⟩, ?_⟩
                    (obtain ⟨⟨f0, f1, f2, f3, f4, f5, f6⟩, ⟨g0, g1, g2, g3, g4, g5, g6⟩, ⟨d0, d1, d2, d3, d4, d5⟩, ⟨h0, h1, h2, h3, h4, h5⟩⟩ := Hcl.out wx hwx; have hbl := World.block_lt_of_cell? _ _ d0; have hbl2 := World.block_lt_of_cell? _ _ h0; go_simp; first | done | with_reducible rfl)
                    refine anyIn_read (i := 4) rfl (by kernel_rfl) (by kernel_rfl) (by kernel_rfl) (fun _ _ _ _ h => h) ?_
                    apply Exists.intro
                    refine ⟨Or.inl ⟨by rfl, fun wx hwx => ?_⟩, ?_⟩
                    (obtain ⟨⟨f0, f1, f2, f3, f4, f5, f6⟩, ⟨g0, g1, g2, g3, g4, g5, g6⟩, ⟨d0, d1, d2, d3, d4, d5⟩, ⟨h0, h1, h2, h3, h4, h5⟩⟩ := Hcl.out wx hwx; have hbl := World.block_lt_of_cell? _ _ d0; have hbl2 := World.block_lt_of_cell? _ _ h0; go_simp; first | done | with_reducible rfl)
                    refine anyIn_read (i := 5) rfl (by kernel_rfl) (by kernel_rfl) (by kernel_rfl) (fun _ _ _ _ h => h) ?_
                    apply Exists.intro
                    refine ⟨Or.inl ⟨by rfl, fun wx hwx => ?_⟩, ?_⟩
                    (obtain ⟨⟨f0, f1, f2, f3, f4, f5, f6⟩, ⟨g0, g1, g2, g3, g4, g5, g6⟩, ⟨d0, d1, d2, d3, d4, d5⟩, ⟨h0, h1, h2, h3, h4, h5⟩⟩ := Hcl.out wx hwx; have hbl := World.block_lt_of_cell? _ _ d0; have hbl2 := World.block_lt_of_cell? _ _ h0; go_simp; first | done | with_reducible rfl)
                    refine anyIn_read (i := 6) rfl (by kernel_rfl) (by kernel_rfl) (by kernel_rfl) (fun _ _ _ _ h => h) ?_
                    apply Exists.intro
                    refine ⟨Or.inl ⟨by rfl, fun wx hwx => ?_⟩, ?_⟩
                    (obtain ⟨⟨f0, f1, f2, f3, f4, f5, f6⟩, ⟨g0, g1, g2, g3, g4, g5, g6⟩, ⟨d0, d1, d2, d3, d4, d5⟩, ⟨h0, h1, h2, h3, h4, h5⟩⟩ := Hcl.out wx hwx; have hbl := World.block_lt_of_cell? _ _ d0; have hbl2 := World.block_lt_of_cell? _ _ h0; go_simp; first | done | with_reducible rfl)
                    refine anyIn_read (i := 7) rfl (by kernel_rfl) (by kernel_rfl) (by kernel_rfl) (fun _ _ _ _ h => h) ?_
                    apply Exists.intro
                    refine ⟨Or.inl ⟨by rfl, fun wx hwx => ?_⟩, ?_⟩
                    (obtain ⟨⟨f0, f1, f2, f3, f4, f5, f6⟩, ⟨g0, g1, g2, g3, g4, g5, g6⟩, ⟨d0, d1, d2, d3, d4, d5⟩, ⟨h0, h1, h2, h3, h4, h5⟩⟩ := Hcl.out wx hwx; have hbl := World.block_lt_of_cell? _ _ d0; have hbl2 := World.block_lt_of_cell? _ _ h0; go_simp; first | done | with_reducible rfl)
                    refine anyIn_read (i := 8) rfl (by kernel_rfl) (by kernel_rfl) (by kernel_rfl) (fun _ _ _ _ h => h) ?_
                    apply Exists.intro
                    refine ⟨Or.inl ⟨by rfl, fun wx hwx => ?_⟩, ?_⟩
                    (obtain ⟨⟨f0, f1, f2, f3, f4, f5, f6⟩, ⟨g0, g1, g2, g3, g4, g5, g6⟩, ⟨d0, d1, d2, d3, d4, d5⟩, ⟨h0, h1, h2, h3, h4, h5⟩⟩ := Hcl.out wx hwx; have hbl := World.block_lt_of_cell? _ _ d0; have hbl2 := World.block_lt_of_cell? _ _ h0; go_simp; first | done | with_reducible rfl)
                    refine anyIn_read (i := 9) rfl (by kernel_rfl) (by kernel_rfl) (by kernel_rfl) (fun _ _ _ _ h => h) ?_
                    apply Exists.intro
                    refine ⟨Or.inl ⟨by rfl, fun wx hwx => ?_⟩, ?_⟩
                    (obtain ⟨⟨f0, f1, f2, f3, f4, f5, f6⟩, ⟨g0, g1, g2, g3, g4, g5, g6⟩, ⟨d0, d1, d2, d3, d4, d5⟩, ⟨h0, h1, h2, h3, h4, h5⟩⟩ := Hcl.out wx hwx; have hbl := World.block_lt_of_cell? _ _ d0; have hbl2 := World.block_lt_of_cell? _ _ h0; go_simp; first | done | with_reducible rfl)
                    refine anyIn_one (i := 10) hCd rfl (by kernel_rfl) (fun K hK => ?_)
                    go_simp
                    refine Calls.mono Hcall.out ?_
                    rintro e9 w6 ⟨rfl, hb6⟩
                    refine hK _ _ ?_
                    clear hK K
                    have hC6 : Below wr.heap.size wr w6 := Below.then hCd hb6 (Nat.le_refl _)
                    refine anyIn_read (i := 11) rfl (by kernel_rfl) (by kernel_rfl) (by kernel_rfl) (fun _ _ _ _ h => h) ?_
                    apply Exists.intro
                    refine ⟨Or.inl ⟨by rfl, fun wx hwx => ?_⟩, ?_⟩
                    (go_simp; first | done | with_reducible rfl)
                    refine anyIn_done hC6 (by kernel_rfl) ?_
                    go_wp2_with fail
                    go_meet
                    exact ⟨rfl, hC6⟩
                  case rest =>
                    obtain ⟨rfl, hC6⟩ := hcut.out
                    clear hcut Hcall Hcl hCd
                    rename World => w6
                    have T6 : Hid (Below w2.heap.size w2 w6) := Below.then T2.out hC6 (Nat.le_refl _)
                    clear hC6 T2
                    cases hb with
                    | false =>
                      have e : R = false := by rw [← T1.out]; rfl
                      subst e
                      go_wp2
                      go_ret
                      exact ⟨rfl, Below.then Hw2.out T6.out (Nat.le_refl _)⟩
                    | true =>
                      have Q : Hid (hasL (kids.drop (i + 1)) (V.kids.drop (i + 1)) = R ∧ Below w2.heap.size w2 w6) := ⟨by rw [← T1.out]; rfl, T6.out⟩
                      clear T1 T6 x5
                      go_wp2
                      go_roundg (kids.length - (i + 1))
                      case measure => omega
                      case rel => exact ⟨i + 1, by first | rfl | (congr 1; omega) | go_num, by omega, rfl, Q⟩
                · have hi' : ¬ (i : Int) < kids.length := by omega
                  have e : R = true := by rw [← t1, List.drop_eq_nil_of_le (by omega), hasL]
                  subst e
                  have Q : Hid (Below w.heap.size w wr) := Below.then Hw2.out t2 (Nat.le_refl _)
                  clear t1 t2
                  go_wp2
                  go_ret
                  exact ⟨rfl, Q.out⟩
            · have e : R = false := by rw [← HR.out, if_neg h1, if_neg h2, if_pos (by omega)]
              subst e
              have hn' : (n != dn) = false := by simpa using hn
              have hk' : (k != dk) = false := by simpa using hk
              have hl' : ((kids.length : Int) != (dl : Int)) = true := ne_of_beq (by omega)
              clear HR h1 h2 hn hk hok hlen v1 v2 v5
              go_wp2
              go_ret
              exact ⟨rfl, Hw2.out⟩
          · have e : R = false := by rw [← HR.out, if_neg h1, if_neg h2, if_pos (by omega)]
            subst e
            have hn' : (n != dn) = false := by simpa using hn
            have hk' : (k != dk) = true := ne_of_beq hk
            clear HR h1 h2 hn hk hok v1 v2 v5
            go_wp2
            go_ret
            exact ⟨rfl, Hw2.out⟩
        · have e : R = false := by rw [← HR.out, if_neg h1, if_neg h2, if_pos (by omega)]
          subst e
          have hn' : (n != dn) = true := ne_of_beq hn
          clear HR h1 h2 hn hok v1 v2 v5
          go_wp2
          go_ret
          exact ⟨rfl, Hw2.out⟩
end
end Go.Proofs.Ytjhfomfaddfklaa
