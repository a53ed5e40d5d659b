/-
  The program's layer matches: partOf.
-/
import Derived.Test.YtjhfomfaddfklaaV8
namespace Go.Proofs.Ytjhfomfaddfklaa
open Go.RowKit Go.Deep Go.Shelf
section
set_option maxHeartbeats 8000000
set_option maxRecDepth 100000
theorem part_nil {P : Pt} (h : (bareP P).k = 0) (w w' : World) (hb : Below w.heap.size w w') : PartPost P w (.returned (.pointer none)) w' := PartPost.mk none rfl (fun _ _ => PrtIn.any P h) hb
theorem part_one (wb : World) (k n o a : Int) (s : ByteArray) (kids : List Pt) (hg : (Pt.mk k n o a s kids).good = true) (ih : ∀ P ∈ kids, PartOk wb P) : PartOk wb (.mk k n o a s kids) := by
  intro c hP w hbw
  obtain ⟨gp1, gp2, gp3⟩ := good_parts hg
  have hparts := hP.parts
  have hrow := hP.row hbw
  obtain ⟨ck, cn, co, ca, cs, cp, cl, cc⟩ := c
  simp only [Pt.k, Pt.n, Pt.o, Pt.s, Pt.kids] at hparts hrow
  obtain ⟨e1, e2, e3, e4, e5, e6, e7⟩ := hparts
  subst e1 e2 e3 e4 e5
  have hbx := pbox_new w ⟨k, n, o, ca, s, cp, kids.length, cc⟩
  have hba : Below w.heap.size w (w.alloc (PC.obj ⟨k, n, o, ca, s, cp, kids.length, cc⟩)) := (Below.refl _ _).alloc (Nat.le_refl _) _
  simp only [PC.val]
  by_cases h01 : k = 0 ∨ k = 1
  · have hz : (bareP (.mk k n o a s kids)).k = 0 := by
      rcases h01 with h | h
      · rw [bareP_else (by omega) (by omega)]; exact h
      · rw [bareP_var h]; rfl
    have Q : Hid _ := part_nil hz w _ hba
    simp only [PC.obj] at Q
    clear hP hrow hbx hba hg hz gp1 gp2 gp3 ih
    rcases h01 with rfl | rfl <;>
    · go_enter Try.func40, Try.ntmps40
      go_wp2
      go_ret
      exact Q.out
  · have g0 : (k == 0) = false := by rw [beq_eq_false_iff_ne]; omega
    have g1 : (k == 1) = false := by rw [beq_eq_false_iff_ne]; omega
    by_cases h2 : k = 2
    · have hl1 : kids.length = 1 := by
        unfold okP at gp1
        simp [h2] at gp1
        exact gp1
      obtain ⟨x, rfl⟩ : ∃ x, kids = [x] := List.length_eq_one_iff.1 hl1
      obtain ⟨b, oo, c0, rfl, hc6, hx⟩ := hrow.get 0 (by simp)
      simp only [Nat.zero_mul, Nat.add_zero, List.getElem_cons_zero] at hc6 hx
      have hc6' := hc6.below hba
      have hw1 : Below wb.heap.size wb (w.alloc (PC.obj ⟨k, n, o, ca, s, some ⟨b, oo, none⟩, [x].length, cc⟩)) := hbw.trans (hba.mono hbw.size)
      have Hcall : Hid (Calls Try.prog 40 #[c0.val] (w.alloc (PC.obj ⟨k, n, o, ca, s, some ⟨b, oo, none⟩, [x].length, cc⟩)) fun e w' => PartPost x (w.alloc (PC.obj ⟨k, n, o, ca, s, some ⟨b, oo, none⟩, [x].length, cc⟩)) e w') := ih x (by simp) c0 hx _ hw1
      have hbe : bareP (.mk k n o a s [x]) = bareP x := bareP_as h2
      have Q : Hid (∀ e w', PartPost x (w.alloc (PC.obj ⟨k, n, o, ca, s, some ⟨b, oo, none⟩, [x].length, cc⟩)) e w' → PartPost (.mk k n o a s [x]) w e w') := by
        rintro e w' ⟨v, rfl, hf, hb⟩
        refine PartPost.mk v rfl (fun w'' h'' => ?_) (hba.trans (hb.mono hba.size))
        have hpx := hf w'' (fun kk y h0 h1 h2 h3 => h'' kk y (by simp at h0; omega) h1 h2 h3)
        cases hpx with
        | any P h => exact PrtIn.any _ (by rw [hbe]; exact h)
        | mk P b p cap L C hk hL hc hm hcap hz hp hr => exact PrtIn.mk _ b p cap L C (by rw [hbe]; exact hk) (by rw [hbe]; exact hL) (by rw [hbe]; exact hc) hm hcap hz hp hr
      have hcap1 : 1 ≤ cc := by simpa using e7
      simp only [PC.obj, List.length_cons, List.length_nil, Nat.zero_add] at Hcall Q hc6' ⊢
      clear hP hrow hba hg gp1 gp2 gp3 ih hw1 hc6 hx hbx hbe e6 e7 hl1
      subst h2
      have hc7 := hc6'
      obtain ⟨d0, d1, d2, d3, d4, d5⟩ := hc7
      have hlt := World.block_lt_of_cell? _ _ d0
      go_enter Try.func40, Try.ntmps40
      obtain ⟨ak, an, ao, aa, as_, ap, al, ac⟩ := c0
      simp only [PC.val] at *
      go_wp2_with (go_at_call 40; refine Calls.mono Hcall.out ?_; rintro e9 w9 h9; have h9' := Q.out e9 w9 h9; obtain ⟨v9, rfl, hf9, hb9⟩ := h9; clear hf9 hb9)
      go_ret
      exact h9'
    · have g2 : (k == 2) = false := by rw [beq_eq_false_iff_ne]; omega
      have hbe : bareP (.mk k n o a s kids) = .mk k n o a s kids := bareP_else (by omega) h2
      have hk0 : (bareP (.mk k n o a s kids)).k ≠ 0 := by rw [hbe]; exact fun h => h01 (Or.inl h)
      have Hnum : Hid (hnum (bareP (.mk k n o a s kids)) = (hdC ⟨k, n, o, ca, s, cp, kids.length, cc⟩).n) := by unfold Hid; rw [hbe]; rfl
      have Htxt : Hid (htxt (bareP (.mk k n o a s kids)) = (hdC ⟨k, n, o, ca, s, cp, kids.length, cc⟩).s) := by unfold Hid; rw [hbe]; rfl
      have hhd : (hdC ⟨k, n, o, ca, s, cp, kids.length, cc⟩).val = .agg #[.int .i64 k, .int .i64 (hdC ⟨k, n, o, ca, s, cp, kids.length, cc⟩).n, .string (hdC ⟨k, n, o, ca, s, cp, kids.length, cc⟩).s, .int .i64 kids.length] := rfl
      have Hh : Hid (∀ wx, Calls Try.prog 48 #[PC.val ⟨k, n, o, ca, s, cp, kids.length, cc⟩] wx fun e w' => e = .returned (.agg #[.int .i64 k, .int .i64 (hdC ⟨k, n, o, ca, s, cp, kids.length, cc⟩).n, .string (hdC ⟨k, n, o, ca, s, cp, kids.length, cc⟩).s, .int .i64 kids.length]) ∧ Below wx.heap.size wx w') := fun wx => by
        have := headOf_any ⟨k, n, o, ca, s, cp, kids.length, cc⟩ wx
        rw [hhd] at this
        exact this
      clear hhd
      generalize (hdC ⟨k, n, o, ca, s, cp, kids.length, cc⟩).n = num at *
      generalize (hdC ⟨k, n, o, ca, s, cp, kids.length, cc⟩).s = txt at *
      have hbw1 : Below wb.heap.size wb (w.alloc (PC.obj ⟨k, n, o, ca, s, cp, kids.length, cc⟩)) := hbw.trans (hba.mono hbw.size)
      have hrow1 := hrow.below hba
      have Hk : Hid (∀ wx, Below (w.alloc (PC.obj ⟨k, n, o, ca, s, cp, kids.length, cc⟩)).heap.size (w.alloc (PC.obj ⟨k, n, o, ca, s, cp, kids.length, cc⟩)) wx → Calls Try.prog 23 #[.slice cp kids.length cc] wx fun e w' => PartsPost kids wx e w') := fun wx hx => parts_row wb kids ih gp2 wx cp cc (hbw1.trans (hx.mono hbw1.size)) (hrow1.below hx)
      have Hcls : Hid (∀ wx, Below (w.alloc (PC.obj ⟨k, n, o, ca, s, cp, kids.length, cc⟩)).heap.size (w.alloc (PC.obj ⟨k, n, o, ca, s, cp, kids.length, cc⟩)) wx → wx.cell? ⟨w.heap.size, 0, none⟩ = some (.int .i64 k) ∧ wx.cell? ⟨w.heap.size, 1, none⟩ = some (.int .i64 n) ∧ wx.cell? ⟨w.heap.size, 2, none⟩ = some (.int .i64 o) ∧ wx.cell? ⟨w.heap.size, 3, none⟩ = some (.int .i64 ca) ∧ wx.cell? ⟨w.heap.size, 4, none⟩ = some (.string s) ∧ wx.cell? ⟨w.heap.size, 5, none⟩ = some (.slice cp kids.length cc) ∧ w.heap.size < wx.heap.size) := fun wx hx => (hbx.below hx).cells'
      have Hba : Hid (Below w.heap.size w (w.alloc (PC.obj ⟨k, n, o, ca, s, cp, kids.length, cc⟩))) := hba
      have hsz1 : (w.alloc (PC.obj ⟨k, n, o, ca, s, cp, kids.length, cc⟩)).heap.size = w.heap.size + 1 := by simp
      have Hsz1 : Hid ((w.alloc (PC.obj ⟨k, n, o, ca, s, cp, kids.length, cc⟩)).heap.size = w.heap.size + 1) := hsz1
      have hknn : ((k : Int) == 0) = false := g0
      simp only [PC.obj, PC.val] at Hh Hk Hcls Hba Hsz1
      clear hP hrow hrow1 hba hg gp1 gp3 ih hbw1 hbx e6 h01 hsz1 hknn
      go_enter Try.func40, Try.ntmps40
      go_upto_region 7 with fail
      generalize w.alloc (Obj.cells #[.int .i64 k, .int .i64 n, .int .i64 o, .int .i64 ca, .string s, .slice cp kids.length cc] 26) = W1 at *
      have hCd : Below W1.heap.size W1 W1.drew := (Below.refl _ _).drew
      refine region_any (C := fun wx => Below W1.heap.size W1 wx) (by kernel_rfl) ?_
      refine anyIn_read (i := 0) rfl (by kernel_rfl) (by kernel_rfl) (by kernel_rfl) (fun _ _ _ _ h => h) ?_
      apply Exists.intro
      refine ⟨Or.inl ⟨by rfl, fun wx hwx => ?_⟩, ?_⟩
      (obtain ⟨f0, f1, f2, f3, f4, f5, f6⟩ := Hcls.out wx hwx; go_simp; first | done | with_reducible rfl)
      refine anyIn_read (i := 2) rfl (by kernel_rfl) (by kernel_rfl) (by kernel_rfl) (fun _ _ _ _ h => h) ?_
      apply Exists.intro
      refine ⟨Or.inl ⟨by rfl, fun wx hwx => ?_⟩, ?_⟩
      (obtain ⟨f0, f1, f2, f3, f4, f5, f6⟩ := Hcls.out wx hwx; go_simp; first | done | with_reducible rfl)
      refine anyIn_read (i := 3) rfl (by kernel_rfl) (by kernel_rfl) (by kernel_rfl) (fun _ _ _ _ h => h) ?_
      apply Exists.intro
      refine ⟨Or.inl ⟨by rfl, fun wx hwx => ?_⟩, ?_⟩
      (obtain ⟨f0, f1, f2, f3, f4, f5, f6⟩ := Hcls.out wx hwx; go_simp; first | done | with_reducible rfl)
      refine anyIn_read (i := 4) rfl (by kernel_rfl) (by kernel_rfl) (by kernel_rfl) (fun _ _ _ _ h => h) ?_
      apply Exists.intro
      refine ⟨Or.inl ⟨by rfl, fun wx hwx => ?_⟩, ?_⟩
      (obtain ⟨f0, f1, f2, f3, f4, f5, f6⟩ := Hcls.out wx hwx; go_simp; first | done | with_reducible rfl)
      refine anyIn_read (i := 5) rfl (by kernel_rfl) (by kernel_rfl) (by kernel_rfl) (fun _ _ _ _ h => h) ?_
      apply Exists.intro
      refine ⟨Or.inl ⟨by rfl, fun wx hwx => ?_⟩, ?_⟩
      (obtain ⟨f0, f1, f2, f3, f4, f5, f6⟩ := Hcls.out wx hwx; go_simp; first | done | with_reducible rfl)
      refine anyIn_one (i := 1) hCd rfl (by kernel_rfl) (fun K hK => ?_)
      go_simp
      refine Calls.mono (Hh.out _) ?_
      rintro e9 w2 ⟨rfl, hb2⟩
      refine hK _ _ ?_
      clear hK K
      have hC2 : Below W1.heap.size W1 w2 := Below.then hCd hb2 (Nat.le_refl _)
      refine anyIn_one (i := 6) hC2 rfl (by kernel_rfl) (fun K hK => ?_)
      go_simp
      refine Calls.mono (Hk.out _ hC2) ?_
      rintro e9 w3 ⟨q, qc, rfl, hqc, hqn, hf3, hb3, hq3⟩
      refine hK _ _ ?_
      clear hK K
      have hC3 : Below W1.heap.size W1 w3 := Below.then hC2 hb3 (Nat.le_refl _)
      refine anyIn_one (i := 7) hC3 rfl (by kernel_rfl) (fun K hK => ?_)
      go_simp
      refine hK _ _ ?_
      clear hK K
      refine anyIn_one (i := 8) hC3 rfl (by kernel_rfl) (fun K hK => ?_)
      go_simp
      refine hK _ _ ?_
      clear hK K
      have hC4 : Below W1.heap.size W1 (w3.alloc (Obj.cells #[.int .i64 k, .int .i64 num, .string txt, .int .i64 kids.length, .int .i64 o, .slice q kids.length qc] 61)) := hC3.alloc hC3.size _
      have HQ : Hid (PartPost (.mk k n o a s kids) w (.returned (.pointer (some ⟨w3.heap.size, 0, none⟩))) (w3.alloc (Obj.cells #[.int .i64 k, .int .i64 num, .string txt, .int .i64 kids.length, .int .i64 o, .slice q kids.length qc] 61))) := by
        have hbl : Below w.heap.size w (w3.alloc (Obj.cells #[.int .i64 k, .int .i64 num, .string txt, .int .i64 kids.length, .int .i64 o, .slice q kids.length qc] 61)) := Below.trans Hba.out (hC4.mono Hba.out.size)
        have hle : w.heap.size ≤ w2.heap.size := by have := Hsz1.out; have := hC2.size; omega
        have hle3 : w2.heap.size ≤ w3.heap.size := hb3.size
        refine PartPost.mk _ rfl (fun w'' h'' => ?_) hbl
        have hblk : w''.heap[w3.heap.size]? = some (Obj.cells #[.int .i64 k, .int .i64 num, .string txt, .int .i64 kids.length, .int .i64 o, .slice q kids.length qc] 61) := h'' w3.heap.size _ (by omega) (by simp) (World.alloc_heap_new w3 _) rfl
        have hline : LineAt w'' w'' q kids.reverse := hf3 w'' (fun kk x h0 h1 h2 => h'' kk x (by omega) (by simp) ((Below.heap_alloc _ _ _ (Array.getElem?_eq_some_iff.1 h1).1).trans h1) h2)
        refine PrtIn.make (p := q) (cap := qc) hk0 ?_ (by rw [hbe]; exact hqc) hqn (by rw [hbe]; exact hline)
        have e1 := Hnum.out
        have e2 := Htxt.out
        rw [hbe] at e1 e2 ⊢
        refine ⟨?_, ?_, ?_, ?_, ?_, ?_⟩ <;> simp [World.cell?, hblk, e1, e2, Pt.k, Pt.kids, Pt.o]
      generalize w3.alloc (Obj.cells #[.int .i64 k, .int .i64 num, .string txt, .int .i64 kids.length, .int .i64 o, .slice q kids.length qc] 61) = w4 at *
      generalize w3.heap.size = b3 at *
      refine anyIn_one (i := 9) hC4 rfl (by kernel_rfl) (fun K hK => ?_)
      go_simp
      refine hK _ _ ?_
      clear hK K
      refine anyIn_done hC4 (by kernel_rfl) ?_
      clear hf3 hb3 hq3 hC3 hC4 hC2 hb2 Hh Hk Hcls
      go_wp2
      go_ret
      exact HQ.out
mutual
theorem part_any (wb : World) : ∀ (P : Pt), P.good = true → PartOk wb P
  | .mk k n o a s kids, hg => part_one wb k n o a s kids hg (parts_all wb kids (good_parts hg).2.2)
theorem parts_all (wb : World) : ∀ (l : List Pt), (∀ x ∈ l, x.good = true) → ∀ P ∈ l, PartOk wb P
  | [], _, P, h => by cases h
  | x :: r, hg, P, h => (List.mem_cons.1 h).elim (fun e => e ▸ part_any wb x (hg x (by simp))) (fun h' => parts_all wb r (fun y hy => hg y (by simp [hy])) P h')
end
theorem partsOf_any (wb w : World) (l : List Pt) (hg : ∀ x ∈ l, x.good = true) (hlen : l.length ≤ 1000) (p : Option Addr) (cap : Nat) (hbw : Below wb.heap.size wb w) (hrow : RowAt wb w p l) :
    Calls Try.prog 23 #[.slice p l.length cap] w fun e w' => PartsPost l w e w' := parts_row wb l (parts_all wb l hg) hlen w p cap hbw hrow
/-- A row's line. -/
inductive LinePost (l : List Pt) (w : World) (e : Ending) (w' : World) : Prop
  | mk (q : Option Addr) (cap : Nat) (he : e = .returned (.slice q (trimL l.reverse).length cap)) (hc : (trimL l.reverse).length ≤ cap) (hn : q = none → cap = 0) (hR : LineAt w' w' q (trimL l.reverse)) (hq : ∀ b, q = some b → w.heap.size ≤ b.block ∧ b.block < w'.heap.size) (hb : Below w.heap.size w w') : LinePost l w e w'
theorem lineOf_any (wb w : World) (l : List Pt) (hg : ∀ x ∈ l, x.good = true) (hlen : l.length ≤ 1000) (p : Option Addr) (cap : Nat) (hbw : Below wb.heap.size wb w) (hrow : RowAt wb w p l) :
    Calls Try.prog 14 #[.slice p l.length cap] w fun e w' => LinePost l w e w' := by
  have Hcall : Hid _ := partsOf_any wb w l hg hlen p cap hbw hrow
  clear hrow hbw hg
  go_enter Try.func14, Try.ntmps14
  go_wp2_with fail
  refine Calls.mono Hcall.out ?_
  rintro e1 w1 ⟨q, qc, rfl, hqc, hqn, hf1, hb1, hq1⟩
  have Hcall2 : Hid _ := trimmed_any w1 w1 q qc l.reverse hf1.in_ (by simpa using hqc) hqn
  rw [List.length_reverse] at Hcall2
  clear Hcall
  go_wp2_with fail
  refine Calls.mono Hcall2.out ?_
  rintro e2 w2 ⟨q2, qc2, rfl, h1, h2, h3, h4, rfl⟩
  have Q : Hid (LinePost l w (.returned (.slice q2 (trimL l.reverse).length qc2)) w2) := LinePost.mk q2 qc2 rfl h1 h2 h3 (fun b hb => by
    obtain ⟨a, ha, hab⟩ := h4 b hb
    have := hq1 a ha
    omega) hb1
  clear h1 h2 h3 h4 hf1 hb1 hq1 hqn hqc Hcall2
  go_wp2
  go_ret
  exact Q.out
end
end Go.Proofs.Ytjhfomfaddfklaa
