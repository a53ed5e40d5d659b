/-
  The law Covered's own functions, seven: fitted at every pattern.
-/
import Derived.Test.YtjhfomfaddfklaaU23
namespace Go.Proofs.Ytjhfomfaddfklaa
open Go.RowKit Go.Deep
mutual
/-- The numbers are numbers of 64 bits. -/
def Pt.low : Pt → Bool
  | .mk k n _ _ _ kids => decide (-9223372036854775808 ≤ k) && (decide (-9223372036854775808 ≤ n) && Pt.lowL kids)
def Pt.lowL : List Pt → Bool
  | [] => true
  | x :: r => Pt.low x && Pt.lowL r
end
theorem Pt.lowL_mem {l : List Pt} : Pt.lowL l = true ↔ ∀ x ∈ l, x.low = true := by
  induction l with
  | nil => simp [Pt.lowL]
  | cons x r ih => simp [Pt.lowL, ih]
theorem low_parts {P : Pt} (h : P.low = true) : -9223372036854775808 ≤ P.k ∧ -9223372036854775808 ≤ P.n ∧ ∀ x ∈ P.kids, x.low = true := by
  cases P with
  | mk k n o a s kids =>
    rw [Pt.low] at h
    simp only [Bool.and_eq_true, decide_eq_true_eq] at h
    exact ⟨h.1, h.2.1, Pt.lowL_mem.1 h.2.2⟩
theorem kid_of_any (i : Nat) : kidP Pt.any i = Pt.any := by simp [kidP, Pt.any, Pt.kids]
theorem pick_nought {t : Sr} : pickP 0 t.cnt = 0 := by cases t <;> rfl
theorem fit_of_any_false (wb : World) (t : Sr) : FitAt wb Pt.any t false 1 := by
  intro c hP w hbw
  have hk : c.k = 0 := (hP.parts.1).symm
  exact fit_var c t w (by omega) (by rw [hk]; rfl)
theorem fit_of_any_con (wb : World) (t : Sr) (ht : t = .two ∨ t = .opt ∨ t = .lst ∨ t = .thr) : FitAt wb Pt.any t true 2 := by
  intro c hP w hbw
  have hk : c.k = 0 := (hP.parts.1).symm
  have hn : c.n = 0 := (hP.parts.2.1).symm
  refine fit_con (NB := fun _ => 0) wb Pt.any c hP t ht true (fun h => absurd ?_ h) w hbw (by omega) (by omega) (fun h => by cases h)
  rw [hn, pick_nought]
  rcases ht with rfl | rfl | rfl | rfl <;> rfl
theorem fit_of_any (wb : World) (t : Sr) (ht : t ≠ .p13) (v : Bool) : FitAt wb Pt.any t v 5 := by
  cases v with
  | false => exact (fit_of_any_false wb t).le (by omega)
  | true =>
    have hc := fit_of_any_con wb
    cases t with
    | num =>
      intro c hP w hbw
      have hk : c.k = 0 := (hP.parts.1).symm
      have hn : c.n = 0 := (hP.parts.2.1).symm
      exact (fit_num c true w (by omega) (by omega) (fun h => by cases h)).mono (fun _ _ h => h.le (by omega))
    | two => exact (hc .two (by simp)).le (by omega)
    | opt => exact (hc .opt (by simp)).le (by omega)
    | lst => exact (hc .lst (by simp)).le (by omega)
    | thr => exact (hc .thr (by simp)).le (by omega)
    | p13 => exact absurd rfl ht
    | p12 =>
      intro c hP w hbw
      have hk : c.k = 0 := (hP.parts.1).symm
      exact fit_p12 wb Pt.any c hP true (by rw [kid_of_any]; exact hc .two (by simp)) (by rw [kid_of_any]; exact hc .opt (by simp)) w hbw (by omega) (fun h => by cases h)
theorem fit_step (wb : World) (P : Pt) (hl : P.low = true) (NB : Nat → Nat) (hK : ∀ i t v, t ≠ .p13 → FitAt wb (kidP P i) t v (NB i)) (t : Sr) (ht : t ≠ .p13) (v : Bool) : FitAt wb P t v (2 + NB 0 + NB 1) := by
  intro c hP w hbw
  obtain ⟨p1, p2, _⟩ := hP.parts
  obtain ⟨l1, l2, _⟩ := low_parts hl
  rw [p1] at l1
  rw [p2] at l2
  have hcon : ∀ s : Sr, (s = .two ∨ s = .opt ∨ s = .lst ∨ s = .thr) → (v = false → pickP c.k 4 ≠ 0 ∧ pickP c.k 9 ≠ 1) → Calls Try.prog 9 #[c.val, .int .i64 s.nr, .bool v] w fun e w' => FitPost (2 + NB 0 + NB 1) s v w e w' := fun s hs hC => fit_con wb P c hP s hs v (fun _ i s' hs' => hK i s' v hs') w hbw l1 l2 hC
  have hrest : (v = false → pickP c.k 4 ≠ 0 ∧ pickP c.k 9 ≠ 1) → Calls Try.prog 9 #[c.val, .int .i64 t.nr, .bool v] w fun e w' => FitPost (2 + NB 0 + NB 1) t v w e w' := by
    intro hC
    cases t with
    | num => exact (fit_num c v w l1 l2 hC).mono (fun _ _ h => h.le (by omega))
    | two => exact hcon .two (by simp) hC
    | opt => exact hcon .opt (by simp) hC
    | lst => exact hcon .lst (by simp) hC
    | thr => exact hcon .thr (by simp) hC
    | p13 => exact absurd rfl ht
    | p12 => exact (fit_p12 wb P c hP v (hK 0 .two v (by simp)) (hK 1 .opt v (by simp)) w hbw l1 hC).mono (fun _ _ h => h.le (by omega))
  cases v with
  | true => exact hrest (fun h => by cases h)
  | false =>
    by_cases h4 : pickP c.k 4 = 0
    · exact (fit_var c t w l1 h4).mono (fun _ _ h => h.le (by omega))
    · by_cases h9 : pickP c.k 9 = 1
      · exact (fit_as wb P c hP t (hK 0 t false ht) w hbw l1 h4 h9).mono (fun _ _ h => h.le (by omega))
      · exact hrest (fun _ => ⟨h4, h9⟩)
theorem cnt_kids (P : Pt) : cntP P = 1 + cntL P.kids := by
  cases P with
  | mk k n o a s kids => rw [cntP, Pt.kids]
theorem fit_all (wb : World) : ∀ (N : Nat) (P : Pt), SizeOf.sizeOf P < N → P.low = true → ∀ (t : Sr) (v : Bool), t ≠ .p13 → FitAt wb P t v (12 * cntP P) := by
  intro N
  induction N with
  | zero => intro P h; omega
  | succ N ih =>
    intro P hs hl t v ht
    refine (fit_step wb P hl (fun i => if i < P.kids.length then 12 * cntP (kidP P i) else 5) (fun i t' v' ht' => ?_) t ht v).le ?_
    · by_cases hi : i < P.kids.length
      · have e : kidP P i = P.kids[i] := by simp [kidP, hi]
        rw [if_pos hi, e]
        have hm : P.kids[i] ∈ P.kids := List.getElem_mem hi
        refine ih _ ?_ ((low_parts hl).2.2 _ hm) t' v' ht'
        have h1 := List.sizeOf_lt_of_mem hm
        have h2 : SizeOf.sizeOf P.kids < SizeOf.sizeOf P := by
          cases P with
          | mk k n o a s kids =>
            simp only [Pt.kids, Pt.mk.sizeOf_spec]
            omega
        omega
      · have e : kidP P i = Pt.any := by simp [kidP, hi]
        rw [if_neg hi, e]
        exact fit_of_any wb t' ht' v'
    · rw [cnt_kids P]
      unfold kidP
      generalize P.kids = l
      match l with
      | [] => simp [cntL]
      | [x] => simp [cntL]; omega
      | x :: y :: r => simp [cntL]; omega
/-- What fitted gives. -/
theorem fitted_any (wb : World) (c : PC) (P : Pt) (hP : PtIn wb c P) (hl : P.low = true) (t : Sr) (ht : t ≠ .p13) (v : Bool) (w : World) (hbw : Below wb.heap.size wb w) : Calls Try.prog 9 #[c.val, .int .i64 t.nr, .bool v] w fun e w' => FitPost (12 * cntP P) t v w e w' :=
  fit_all wb (SizeOf.sizeOf P + 1) P (Nat.lt_succ_self _) hl t v ht c hP w hbw
end Go.Proofs.Ytjhfomfaddfklaa
namespace Go.Proofs.Ytjhfomfaddfklaa
open Go.RowKit Go.Deep
theorem cntL_drop (l : List Pt) (i : Nat) (hi : i < l.length) : cntL (l.drop i) = cntP (l[i]'hi) + cntL (l.drop (i + 1)) := by
  rw [List.drop_eq_getElem_cons hi, cntL]
theorem wrap_next (l c d R : Int) (h : wrap64 (l + (c + d)) = R) : wrap64 (wrap64 (l + wrap64 c) + d) = R := by
  rw [← h]
  unfold wrap64
  omega
theorem wrap_twice (x : Int) : wrap64 (wrap64 x) = wrap64 x := by
  unfold wrap64
  omega
section
set_option maxHeartbeats 8000000
set_option maxRecDepth 100000
theorem count_any (wb : World) (c : PC) (P : Pt) (hP : PtIn wb c P) : ∀ (w : World), Below wb.heap.size wb w → Calls Try.prog 10 #[c.val] w fun e w' => e = .returned (.int .i64 (wrap64 (cntP P))) ∧ Below w.heap.size w w' := by
  induction hP with
  | mk c kids b o C hl hm hcap hz hw hp hc hr ih =>
    intro w hbw
    obtain ⟨k, n, oo, a, s, p, len, cap⟩ := c
    simp only at hl hp hcap hw
    subst hl
    have hm' := hm
    unfold maxLen at hm'
    have Hbx : Hid (PBox _ _ _) := pbox_new w ⟨k, n, oo, a, s, p, kids.length, cap⟩
    have Hba : Hid (Below w.heap.size w (w.alloc (PC.obj ⟨k, n, oo, a, s, p, kids.length, cap⟩))) := (Below.refl _ _).alloc (Nat.le_refl _) _
    have Hih : Hid _ := ih
    have Hc : Hid (∀ i, i < kids.length → Cells6 wb b (o + i * 6) (C i)) := hc
    have Hp : Hid (kids ≠ [] → p = some ⟨b, o, none⟩) := hp
    have Hbw : Hid (Below wb.heap.size wb w) := hbw
    obtain ⟨R, hR⟩ : ∃ R, wrap64 (cntP (.mk k n oo a s kids)) = R := ⟨_, rfl⟩
    have HR : Hid (wrap64 (1 + (cntL (kids.drop 0) : Int)) = R) := by unfold Hid; rw [← hR, cntP, List.drop_zero]; simp
    rw [hR]
    clear hR ih hr hc hp hbw hcap hz hw hm
    simp only [PC.val, PC.obj] at *
    go_enter Try.func10, Try.ntmps10
    go_upto_block 0 with fail
    generalize w.alloc (Obj.cells #[Value.int IntKind.i64 k, Value.int IntKind.i64 n, Value.int IntKind.i64 oo, Value.int IntKind.i64 a, Value.string s, Value.slice p kids.length cap] 26) = w1 at *
    go_wp2_with fail
    go_loopg [3, 4] kids.length (fun g lv iv wr => ∃ (i : Nat) (l : Int), lv = .int .i64 l ∧ iv = .int .i64 i ∧ i ≤ kids.length ∧ g = kids.length - i ∧ Hid (wrap64 l = l ∧ wrap64 (l + cntL (kids.drop i)) = R ∧ Below w1.heap.size w1 wr))
    case atStart => exact ⟨0, 1, rfl, rfl, by omega, by omega, by unfold wrap64; omega, HR.out, Below.refl _ _⟩
    case round =>
      obtain ⟨i, l, rfl, rfl, hi1, rfl, HJ⟩ := hrel
      obtain ⟨t0, t1, t2⟩ := HJ.out
      clear HJ
      obtain ⟨_, _, _, _, _, x5, x6⟩ := PBox.cells' (PBox.below Hbx.out t2)
      simp only at x5
      by_cases hi : i < kids.length
      · have hi' : (i : Int) < kids.length := by omega
        have hpe := Hp.out (fun e => by rw [e] at hi; cases hi)
        subst hpe
        have hwr : Below wb.heap.size wb wr := Below.trans Hbw.out ((Below.then Hba.out t2 (Nat.le_refl _)).mono (Below.size Hbw.out))
        obtain ⟨d0, d1, d2, d3, d4, d5⟩ := (Hc.out i hi).below hwr
        have hbl := World.block_lt_of_cell? _ _ d0
        have hcall := Hih.out i hi wr hwr
        have Hcall : Hid _ := hcall
        rw [cntL_drop kids i hi] at t1
        have T1 : Hid (wrap64 (wrap64 (l + wrap64 (cntP (kids[i]'hi))) + (cntL (kids.drop (i + 1)) : Int)) = R) := wrap_next l _ _ R (by rw [← t1]; simp)
        have T2 : Hid (Below w1.heap.size w1 wr) := t2
        generalize wrap64 (cntP (kids[i]'hi) : Int) = l2 at *
        generalize C i = ci at *
        obtain ⟨ek, en, eo, ea, es, ep, el, ec⟩ := ci
        simp only at *
        clear t0 t1 t2 hcall hwr
        go_wp2_with fail
        refine Calls.mono Hcall.out ?_
        rintro e8 w8 ⟨rfl, hb8⟩
        have Q : Hid (wrap64 (wrap64 (l + l2)) = wrap64 (l + l2) ∧ wrap64 (wrap64 (l + l2) + cntL (kids.drop (i + 1))) = R ∧ Below w1.heap.size w1 w8) := ⟨wrap_twice _, T1.out, Below.then T2.out hb8 (Nat.le_refl _)⟩
        clear hb8 Hcall d0 d1 d2 d3 d4 d5 x5
        go_wp2
        go_roundg (kids.length - (i + 1))
        case measure => omega
        case rel => exact ⟨i + 1, wrap64 (l + l2), rfl, by first | rfl | (congr 1; omega) | go_num, by omega, rfl, Q⟩
      · have hi' : ¬ (i : Int) < kids.length := by omega
        have e : l = R := by
          rw [← t1, List.drop_eq_nil_of_le (by omega), cntL]
          simpa using t0.symm
        subst e
        have Q : Hid (Below w.heap.size w wr) := Below.then Hba.out t2 (Nat.le_refl _)
        clear t0 t1 t2
        go_wp2
        go_ret
        exact ⟨rfl, Q.out⟩
end
end Go.Proofs.Ytjhfomfaddfklaa
