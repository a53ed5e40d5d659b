/-
  The document's own solver, whole (Solve).
-/
import Derived.Test.YtbgpjaniohpfaaaR12
import Derived.Test.YtbgpjaniohpfaaaR9
import Derived.Test.YtbgpjaniohpfaaaR6
import Derived.Test.YtbgpjaniohpfaaaR11
import Derived.Deep.AppendLies
import Derived.Deep.RegionLaw
namespace Go.Proofs.Ytbgpjaniohpfaaa
open Go.RowKit Go.Deep
set_option maxHeartbeats 8000000 in
set_option maxRecDepth 100000 in
theorem solveR_any (w : World) (p : Option Addr) (cap : Nat) (ps : List (Ty × Ty)) (hP : PairsIn w p ps) (hcnt : allCount ps ≤ 1048576) :
    Calls Try.prog 11 #[.slice p ps.length cap] w fun e' w' => SolveRPost w ps e' w' := by
  have hlen := hP.len
  have HP : Hid (∀ i (hi : i < ps.length), ∃ b o, p = some ⟨b, o, none⟩ ∧ b < w.heap.size ∧ PairCells w b (o + i * 10) (ps[i]'hi)) := hP.get
  have Hcnt : Hid (allCount ps ≤ 1048576) := hcnt
  clear hP hcnt
  obtain ⟨V, hV⟩ : ∃ V, V = allVars ps := ⟨_, rfl⟩
  have HV : Hid (V = allVars ps) := hV
  have hvl : V.length ≤ 1048576 := by rw [hV]; exact Nat.le_trans (allVars_len ps) Hcnt.out
  have Hnd : Hid (V.Nodup) := by unfold Hid; rw [hV]; exact nodup_allVars ps
  have Hnew : Hid _ := newR_any w w V (Below.refl _ _) Hnd.out (by unfold maxLen; omega)
  clear hV
  go_enter Try.func11, Try.ntmps11
  go_wp2_with (go_at_call 21; refine Calls.mono Hnew.out ?_; rintro e1 w1 ⟨sp, bM, bQ, rfl, hS, hl, hb⟩)
  have hlt := hS.lt
  obtain ⟨B, hB⟩ : ∃ B, B = w1.heap.size := ⟨_, rfl⟩
  have HS1 : Hid (SR w w1 sp bM bQ B 0 0 (fun _ => none) Ty.vr (allMarks (ps.take 0)) V (.slice none 0 0) (allVars (ps.take 0))) := ⟨hS, World.ownsRow_nil _ _ _ _, by omega, by omega, by omega, by omega, by omega⟩
  clear hS hlt hb hl Hnew hB
  go_wp2_with fail
  go_loopg [6, 7] ps.length (fun g v0 iv wr => ∃ (i : Nat) (v : Value), v = v0 ∧ iv = .int .i64 i ∧ i ≤ ps.length ∧ g = ps.length - i ∧ Hid ((∃ nq, SR w wr sp bM bQ B 0 nq (fun _ => none) Ty.vr (allMarks (ps.take i)) V v (allVars (ps.take i))) ∧ ∀ j, j < i → ∀ (hj' : j < ps.length), (ps[j]'hj').1.proper = true ∧ (ps[j]'hj').2.proper = true))
  case atStart => exact ⟨0, _, rfl, rfl, by omega, by omega, ⟨0, HS1.out⟩, fun j hj => absurd hj (Nat.not_lt_zero _)⟩
  case round =>
    clear HS1
    obtain ⟨i, v5, hv5, rfl, hi1, rfl, HR⟩ := hrel
    subst hv5
    by_cases hi : i < ps.length
    · have hi' : (i : Int) < ps.length := by omega
      obtain ⟨b, o, rfl, hbw, hpc⟩ := HP.out i hi
      obtain ⟨⟨nq, hSR⟩, hprev⟩ := HR.out
      clear HR
      have hmem : ps[i]'hi ∈ ps := List.getElem_mem hi
      have htk : ps.take (i + 1) = ps.take i ++ [ps[i]'hi] := List.take_succ_eq_append_getElem hi
      have hVm : ∀ x, ((ps[i]'hi).1.hasV x = true ∨ (ps[i]'hi).2.hasV x = true) → x ∈ V := fun x hx => by rw [HV.out]; exact (mem_allVars x ps).2 ⟨_, hmem, hx⟩
      have hV1 : allVars (ps.take (i + 1)) = (ps[i]'hi).2.vars ((ps[i]'hi).1.vars (allVars (ps.take i))) := by rw [htk, allVars_snoc]
      have hQ1 : allMarks (ps.take (i + 1)) = (ps[i]'hi).2.marks ((ps[i]'hi).1.marks (allMarks (ps.take i))) := by rw [htk, allMarks_snoc]
      have hsz : (allVars (ps.take (i + 1))).length ≤ 1048576 := Nat.le_trans (allVars_len _) (Nat.le_trans (allCount_take ps (i + 1)) Hcnt.out)
      have hsz0 : (allVars (ps.take i)).length ≤ 1048576 := Nat.le_trans (allVars_len _) (Nat.le_trans (allCount_take ps i) Hcnt.out)
      have hszm : (((ps[i]'hi).1.vars (allVars (ps.take i)))).length ≤ 1048576 + 1048576 := by
        have h1 := allCount_take ps (i + 1)
        rw [htk, allCount_snoc] at h1
        have h2 := Ty.vars_len (ps[i]'hi).1 (allVars (ps.take i))
        have := Hcnt.out
        omega
      have hbad : ∀ (e' : Ending) (w' : World), ¬ ((ps[i]'hi).1.proper = true ∧ (ps[i]'hi).2.proper = true) → e' = .returned (.tuple #[.slice none 0 0, .int .i64 21, .int .i64 i]) → Below w.heap.size w w' → SolveRPost w ps e' w' := fun e' w' h1 h2 h3 => SolveRPost.arg i hi hprev h1 h2 h3
      have hnext : (ps[i]'hi).1.proper = true → (ps[i]'hi).2.proper = true → ∀ j, j < i + 1 → ∀ (hj' : j < ps.length), (ps[j]'hj').1.proper = true ∧ (ps[j]'hj').2.proper = true := by
        intro h2 h3 j hj hj'
        by_cases e : j = i
        · subst e; exact ⟨h2, h3⟩
        · exact hprev j (by omega) hj'
      generalize hpi : ps[i]'hi = pr at *
      generalize hl0 : allVars (ps.take i) = l0 at *
      generalize hq0 : allMarks (ps.take i) = q0 at *
      cases hpc with
      | mk k n s e l q cap1 k' n' s' e' l' q' cap' c0 c1 c2 c3 c4 c5 c6 c7 c8 c9 hA hB =>
      have HC : Hid (∀ wx, Below w.heap.size w wx → Cells10 wx b (o + i * 10) k n s e q l.length cap1 k' n' s' e' q' l'.length cap') := fun wx hx => Cells10.below ⟨c0, c1, c2, c3, c4, c5, c6, c7, c8, c9, hbw⟩ hx
      have HpA : Hid (∀ wx, Below w.heap.size w wx → _) := fun wx hx => proper_any (.mk k n s e l) wx _ (hA.keep hx)
      have HpB : Hid (∀ wx, Below w.heap.size w wx → _) := fun wx hx => proper_any (.mk k' n' s' e' l') wx _ (hB.keep hx)
      have HA : Hid (TyIn w [.int .i64 k, .int .i64 n, .string s, .int .i64 e, .slice q l.length cap1] (.mk k n s e l)) := hA
      have HB : Hid (TyIn w [.int .i64 k', .int .i64 n', .string s', .int .i64 e', .slice q' l'.length cap'] (.mk k' n' s' e' l')) := hB
      have HSR : Hid _ := hSR
      have HVm : Hid _ := hVm
      have HV1 : Hid _ := hV1
      have HQ1 : Hid _ := hQ1
      have Hsz0 : Hid _ := hsz0
      have Hszm : Hid _ := hszm
      have Hbad : Hid _ := hbad
      have Hnext : Hid _ := hnext
      clear c0 c1 c2 c3 c4 c5 c6 c7 c8 c9 hA hB hSR hVm hV1 hQ1 hsz0 hsz hszm hbad hnext hprev hmem htk hpi hl0 hq0 hbw
      obtain ⟨c0, c1, c2, c3, c4, c5, c6, c7, c8, c9, hbr⟩ := HC.out wr HSR.out.base
      go_wp2_with fail
      refine Calls.mono (HpA.out wr HSR.out.base) ?_
      rintro e9 w2 ⟨rfl, hb2⟩
      have HS2 : Hid _ := HSR.out.below hb2
      clear c0 c1 c2 c3 c4 c5 c6 c7 c8 c9 hbr hb2 HSR HpA
      obtain ⟨c0, c1, c2, c3, c4, c5, c6, c7, c8, c9, hbr⟩ := HC.out w2 HS2.out.base
      go_wp2_with fail
      refine Calls.mono (HpB.out w2 HS2.out.base) ?_
      rintro e9 w3 ⟨rfl, hb3⟩
      have HS3 : Hid _ := HS2.out.below hb3
      clear c0 c1 c2 c3 c4 c5 c6 c7 c8 c9 hbr hb3 HS2 HpB
      cases hpA : (Ty.mk k n s e l).proper with
      | false =>
        have HpA : Hid ((Ty.mk k n s e l).proper = false) := hpA
        clear hpA
        go_wp2
        refine bodyPost_ret (v := .tuple #[.slice none 0 0, .int .i64 21, .int .i64 i]) (by simp [results, Try.results11, go_sem]) rfl (Hbad.out _ _ (fun h => by rw [HpA.out] at h; exact absurd h.1 (by simp)) rfl HS3.out.base)
      | true =>
        have HpA : Hid ((Ty.mk k n s e l).proper = true) := hpA
        clear hpA
        cases hpB : (Ty.mk k' n' s' e' l').proper with
        | false =>
          have HpB : Hid ((Ty.mk k' n' s' e' l').proper = false) := hpB
          clear hpB
          go_wp2
          refine bodyPost_ret (v := .tuple #[.slice none 0 0, .int .i64 21, .int .i64 i]) (by simp [results, Try.results11, go_sem]) rfl (Hbad.out _ _ (fun h => by rw [HpB.out] at h; exact absurd h.2 (by simp)) rfl HS3.out.base)
        | true =>
          have HpB : Hid ((Ty.mk k' n' s' e' l').proper = true) := hpB
          clear hpB
          go_upto_region 10 with fail
          have hcl := Ty.proper_count _ HpA.out
          have hcl' := Ty.proper_count _ HpB.out
          have HvA : Hid (∀ wx, SR w wx sp bM bQ B 0 nq (fun _ => none) Ty.vr q0 V v5 l0 → _) := fun wx hx => varsS hx (.mk k n s e l) _ HA.out (by have := Hsz0.out; omega)
          have HvB : Hid (∀ wx v, SR w wx sp bM bQ B 0 nq (fun _ => none) Ty.vr q0 V v ((Ty.mk k n s e l).vars l0) → _) := fun wx v hx => varsS hx (.mk k' n' s' e' l') _ HB.out (by have h9 : ((Ty.mk k n s e l).vars l0).length ≤ 1048576 + 1048576 := Hszm.out; omega)
          clear hcl hcl'
          go_cut [6] from 42 to 55 (fun a wx => Hid (SR w wx sp bM bQ B 0 nq (fun _ => none) Ty.vr q0 V a ((Ty.mk k' n' s' e' l').vars ((Ty.mk k n s e l).vars l0))))
          case first =>
            have hnow : SR w w3.drew sp bM bQ B 0 nq (fun _ => none) Ty.vr q0 V v5 l0 := HS3.out.below (Below.refl _ _).drew
            obtain ⟨c0, c1, c2, c3, c4, c5, c6, c7, c8, c9, hbr⟩ := HC.out w3 HS3.out.base
            obtain ⟨d0, d1, d2, d3, d4, d5, d6, d7, d8, d9, hdr⟩ := HC.out w3.drew hnow.base
            go_region_with (first
              | (go_at_call 22; refine Calls.mono (HvA.out _ hnow) ?_; rintro e9 w4 ⟨v6, rfl, h4⟩; clear HvA hnow; obtain ⟨f0, f1, f2, f3, f4, f5, f6, f7, f8, f9, hfr⟩ := HC.out w4 h4.base)
              | (go_at_call 22; refine Calls.mono (HvB.out _ _ h4) ?_; rintro e9 w5 ⟨v7, rfl, h5⟩))
            all_goals go_wp2_with fail
            all_goals go_meet
            all_goals exact h5
          case rest =>
            have HS5 : Hid _ := hcut.out
            clear hcut HvA HvB HS3
            have HmA : Hid (∀ wx a, SR w wx sp bM bQ B 0 nq (fun _ => none) Ty.vr q0 V a ((Ty.mk k' n' s' e' l').vars ((Ty.mk k n s e l).vars l0)) → _) := fun wx a hx => markS hx k n s e l q cap1 HA.out ((Ty.proper_iff _).1 HpA.out).2 (fun x h => HVm.out x (.inl h))
            have HmB : Hid (∀ wx a nq2, SR w wx sp bM bQ B 0 nq2 (fun _ => none) Ty.vr ((Ty.mk k n s e l).marks q0) V a ((Ty.mk k' n' s' e' l').vars ((Ty.mk k n s e l).vars l0)) → _) := fun wx a nq2 hx => markS hx k' n' s' e' l' q' cap' HB.out ((Ty.proper_iff _).1 HpB.out).2 (fun x h => HVm.out x (.inr h))
            obtain ⟨c0, c1, c2, c3, c4, c5, c6, c7, c8, c9, hbr⟩ := HC.out wc HS5.out.base
            go_wp2_with fail
            refine Calls.mono (HmA.out _ _ HS5.out) ?_
            rintro e9 w6 ⟨rfl, nq6, h6⟩
            have HS6 : Hid _ := h6
            clear h6 HmA c0 c1 c2 c3 c4 c5 c6 c7 c8 c9 hbr
            obtain ⟨c0, c1, c2, c3, c4, c5, c6, c7, c8, c9, hbr⟩ := HC.out w6 HS6.out.base
            go_wp2_with fail
            refine Calls.mono (HmB.out _ _ _ HS6.out) ?_
            rintro e9 w7 ⟨rfl, nq7, h7⟩
            have Q : Hid ((∃ nq, SR w w7 sp bM bQ B 0 nq (fun _ => none) Ty.vr (allMarks (ps.take (i + 1))) V _ (allVars (ps.take (i + 1)))) ∧ ∀ j, j < i + 1 → ∀ (hj' : j < ps.length), (ps[j]'hj').1.proper = true ∧ (ps[j]'hj').2.proper = true) := ⟨⟨nq7, by rw [HQ1.out, HV1.out]; exact h7⟩, Hnext.out HpA.out HpB.out⟩
            clear h7 HmB c0 c1 c2 c3 c4 c5 c6 c7 c8 c9 hbr HS5 HS6 HC HA HB HVm HV1 HQ1 Hsz0 Hszm Hbad Hnext HpA HpB
            go_wp2
            go_roundg (ps.length - (i + 1))
            case measure => omega
            case rel => exact ⟨i + 1, _, rfl, by first | rfl | (congr 1; omega) | go_num, by omega, rfl, Q⟩
    · have hi' : ¬ (i : Int) < ps.length := by omega
      obtain ⟨⟨nq, hSR⟩, hprev⟩ := HR.out
      have hall : ∀ pr ∈ ps, pr.1.proper = true ∧ pr.2.proper = true := by
        intro pr hpr
        obtain ⟨j, hj, rfl⟩ := List.mem_iff_getElem.1 hpr
        exact hprev j (by omega) hj
      rw [List.take_of_length_le (by omega), ← HV.out] at hSR
      have hwf : ∀ x ∈ V, (Lit.int .i64 x).wf = true := by
        intro x hx
        rw [HV.out] at hx
        obtain ⟨pr, hpr, hh⟩ := (mem_allVars x ps).1 hx
        obtain ⟨j, hj, rfl⟩ := List.mem_iff_getElem.1 hpr
        obtain ⟨b, o, _, _, hpc⟩ := HP.out j hj
        generalize ps[j]'hj = pr at *
        cases hpc with
        | mk k n s e l q cap1 k' n' s' e' l' q' cap' c0 c1 c2 c3 c4 c5 c6 c7 c8 c9 hA hB =>
        rcases hh with hh | hh
        · exact hA.var_wf x hh
        · exact hB.var_wf x hh
      have hmemV : ∀ pr ∈ ps, Over V Ty.vr pr.1 ∧ Over V Ty.vr pr.2 := by
        intro pr hpr
        refine ⟨fun y hy => ?_, fun y hy => ?_⟩
        · rw [Ty.hasV_vr_app] at hy
          rw [HV.out]
          exact (mem_allVars y ps).2 ⟨pr, hpr, .inl hy⟩
        · rw [Ty.hasV_vr_app] at hy
          rw [HV.out]
          exact (mem_allVars y ps).2 ⟨pr, hpr, .inr hy⟩
      have hBal : Bal 0 (fun _ => none) V := ⟨by rw [freeR_none]; omega, Hnd.out, by unfold maxLen; omega⟩
      have Hall : Hid (∀ pr ∈ ps, pr.1.proper = true ∧ pr.2.proper = true) := hall
      have Hwf : Hid (∀ x ∈ V, (Lit.int .i64 x).wf = true) := hwf
      have HmV : Hid (∀ pr ∈ ps, Over V Ty.vr pr.1 ∧ Over V Ty.vr pr.2) := hmemV
      have H0 : Hid (∃ (s1 : St) (n1 nq1 : Nat) (M1 : Int → Option Ty), Uni (St.start ps) (ps.take 0) 0 s1 ∧ SR w wr sp bM bQ B n1 nq1 M1 s1.sub s1.eq V v5 V ∧ Bal n1 M1 V) := ⟨St.start ps, 0, nq, fun _ => none, by rw [List.take_zero]; exact Uni.done _, hSR, hBal⟩
      clear HR hSR hprev hall hwf hmemV hBal
      go_wp2_with fail
      clear hi' hi hi1
      go_loopg [10] ps.length (fun g iv wx => ∃ (i : Nat), iv = .int .i64 i ∧ i ≤ ps.length ∧ g = ps.length - i ∧ Hid (∃ (s1 : St) (n1 nq1 : Nat) (M1 : Int → Option Ty), Uni (St.start ps) (ps.take i) 0 s1 ∧ SR w wx sp bM bQ B n1 nq1 M1 s1.sub s1.eq V v5 V ∧ Bal n1 M1 V))
      case atStart => exact ⟨0, rfl, by omega, by omega, H0.out⟩
      case round =>
        clear H0
        obtain ⟨i, rfl, hi1, rfl, HR⟩ := hrel
        by_cases hi : i < ps.length
        · have hi' : (i : Int) < ps.length := by omega
          obtain ⟨b, o, rfl, hbw, hpc⟩ := HP.out i hi
          obtain ⟨s1, n1, nq1, M1, r1, r2, r3⟩ := HR.out
          clear HR
          have hpp := Hall.out _ (List.getElem_mem hi)
          have htk : ps.take (i + 1) = ps.take i ++ [ps[i]'hi] := List.take_succ_eq_append_getElem hi
          have hov := fun x hx => r1.over (V := V) (Agr.none.good) (fun pr hpr => HmV.out pr (List.mem_of_mem_take hpr)) x hx
          have hovi := HmV.out _ (List.getElem_mem hi)
          have hvA := hov _ hovi.1
          have hvB := hov _ hovi.2
          have hnext : ∀ (e : Int) (s2 : St), Uni s1 [ps[i]'hi] e s2 → Uni (St.start ps) (ps.take (i + 1)) e s2 := by
            intro e s2 hu
            rw [htk]
            exact r1.then rfl hu
          have hfail : ∀ (e : Int) (s2 : St) (e' : Ending) (w' : World), Uni s1 [ps[i]'hi] e s2 → ¬ e = 0 → e' = .returned (.tuple #[.slice none 0 0, .int .i64 e, .int .i64 i]) → Below w.heap.size w w' → SolveRPost w ps e' w' := fun e s2 e' w' h1 h2 h3 h4 => SolveRPost.fail i hi s1 s2 e Hall.out r1 h1 h2 h3 h4
          generalize hpi : ps[i]'hi = pr at *
          cases hpc with
          | mk k n s e l q cap1 k' n' s' e' l' q' cap' c0 c1 c2 c3 c4 c5 c6 c7 c8 c9 hA hB =>
          have HC : Hid (∀ wx, Below w.heap.size w wx → Cells10 wx b (o + i * 10) k n s e q l.length cap1 k' n' s' e' q' l'.length cap') := fun wx hx => Cells10.below ⟨c0, c1, c2, c3, c4, c5, c6, c7, c8, c9, hbw⟩ hx
          obtain ⟨hpA, hsA⟩ := (Ty.proper_iff _).1 hpp.1
          obtain ⟨hpB, hsB⟩ := (Ty.proper_iff _).1 hpp.2
          have Hcall : Hid (∀ wx, SR w wx sp bM bQ B n1 nq1 M1 s1.sub s1.eq V v5 V → _) := fun wx hx => sameR_any w sp bM bQ V _ wx n1 nq1 M1 s1.sub s1.eq k n s e l q cap1 k' n' s' e' l' q' cap' hx.rq r3 hA ⟨hsA, trivial⟩ (fun y hy => hvA y hy) hB ⟨hsB, trivial⟩ (fun y hy => hvB y hy) (Nat.lt_succ_self _)
          have Hnext : Hid (∀ (ez : Int) (sz : St), Uni s1 [(.mk k n s e l, .mk k' n' s' e' l')] ez sz → Uni (St.start ps) (ps.take (i + 1)) ez sz) := hnext
          have Hfail : Hid (∀ (ez : Int) (sz : St) (r : Ending) (w' : World), Uni s1 [(.mk k n s e l, .mk k' n' s' e' l')] ez sz → ¬ ez = 0 → r = .returned (.tuple #[.slice none 0 0, .int .i64 ez, .int .i64 i]) → Below w.heap.size w w' → SolveRPost w ps r w') := hfail
          have R2 : Hid (SR w wr sp bM bQ B n1 nq1 M1 s1.sub s1.eq V v5 V) := r2
          clear hnext hfail hpA hsA hpB hsB r1 r2 r3 hA hB hov hovi hvA hvB hpp htk hpi c0 c1 c2 c3 c4 c5 c6 c7 c8 c9 hbw
          go_upto_region 16 with fail
          go_cut [11] from 75 to 87 (fun a wx => Hid (∃ ev : Int, a = .int .i64 ev ∧ Below w.heap.size w wx ∧ ((∃ sz, Uni s1 [(Ty.mk k n s e l, Ty.mk k' n' s' e' l')] ev sz ∧ ¬ ev = 0) ∨ (ev = 0 ∧ ∃ sz nz nqz Mz, Uni s1 [(Ty.mk k n s e l, Ty.mk k' n' s' e' l')] 0 sz ∧ SR w wx sp bM bQ B nz nqz Mz sz.sub sz.eq V v5 V ∧ Bal nz Mz V))))
          case first =>
            have hnow : SR w wr.drew sp bM bQ B n1 nq1 M1 s1.sub s1.eq V v5 V := R2.out.below (Below.refl _ _).drew
            obtain ⟨c0, c1, c2, c3, c4, c5, c6, c7, c8, c9, hbr⟩ := HC.out wr R2.out.base
            obtain ⟨d0, d1, d2, d3, d4, d5, d6, d7, d8, d9, hdr⟩ := HC.out wr.drew hnow.base
            have Hnow : Hid _ := hnow
            clear hnow
            go_region_with (go_at_call 24; refine Calls.mono (Hcall.out _ Hnow.out) ?_; rintro e9 w4 hp; obtain ⟨ev, rfl⟩ := hp.ret; have Hp : Hid _ := hp; clear hp)
            all_goals go_wp2_with fail
            all_goals go_meet
            all_goals refine ⟨ev, rfl, ?_⟩
            all_goals have hp := Hp.out
            all_goals cases hp with
              | fail ez sz h1 h2 h3 h4 =>
                have hez : ev = ez := by injection h3 with h3; injection h3
                subst hez
                exact ⟨Below.trans Hnow.out.base (h4.below Hnow.out.base.size (by have := Hnow.out.rq.hi; have := Hnow.out.rq.sv.hi; simp; omega)), .inl ⟨sz, h1, h2⟩⟩
              | ok sz nz nqz Mz h1 h2 h3 h4 h5 h6 =>
                have hez : ev = 0 := by injection h2 with h2; injection h2
                subst hez
                exact ⟨h3.sv.base, .inr ⟨rfl, sz, nz, nqz, Mz, h1, Hnow.out.same h3 h6, h4⟩⟩
          case rest =>
            obtain ⟨ev, rfl, hbe, hor⟩ := hcut.out
            have Hbe : Hid (Below w.heap.size w wc) := hbe
            clear hcut Hcall HC R2 hbe
            rcases hor with ⟨sz, h1, h2⟩ | ⟨rfl, sz, nz, nqz, Mz, h1, h2, h3⟩
            · have hz : (ev != 0) = true := by simpa using h2
              have H1 : Hid _ := h1
              have H2 : Hid (¬ ev = 0) := h2
              clear h1 h2
              go_wp2
              refine bodyPost_ret (v := .tuple #[.slice none 0 0, .int .i64 ev, .int .i64 i]) (by simp [results, Try.results11, go_sem]) rfl (Hfail.out ev sz _ _ H1.out H2.out rfl Hbe.out)
            · have Q : Hid (∃ (s1 : St) (n1 nq1 : Nat) (M1 : Int → Option Ty), Uni (St.start ps) (ps.take (i + 1)) 0 s1 ∧ SR w wc sp bM bQ B n1 nq1 M1 s1.sub s1.eq V v5 V ∧ Bal n1 M1 V) := ⟨sz, nz, nqz, Mz, Hnext.out _ _ h1, h2, h3⟩
              clear h1 h2 h3 Hbe Hnext Hfail
              go_wp2
              go_roundg (ps.length - (i + 1))
              case measure => omega
              case rel => exact ⟨i + 1, by first | rfl | (congr 1; omega) | go_num, by omega, rfl, Q⟩
        · have hi' : ¬ (i : Int) < ps.length := by omega
          obtain ⟨s1, n1, nq1, M1, r1, r2, r3⟩ := HR.out
          clear HR
          rw [List.take_of_length_le (by omega)] at r1
          have R1 : Hid (Uni (St.start ps) ps 0 s1) := r1
          have R2 : Hid (SR w wr sp bM bQ B n1 nq1 M1 s1.sub s1.eq V v5 V) := r2
          have Hris : Hid _ := rising_any V v5 B wr r2.own (by omega)
          obtain ⟨zs, hzs⟩ : ∃ zs, zs = V.mergeSort leI := ⟨_, rfl⟩
          have hzl : zs.length = V.length := by rw [hzs]; exact List.length_mergeSort V
          have Hzm : Hid (∀ x, x ∈ zs ↔ x ∈ V) := fun x => by rw [hzs]; exact List.mem_mergeSort
          have Hzs : Hid (zs = V.mergeSort leI) := hzs
          have Hrz : Hid (rising V = zs) := by unfold Hid; rw [hzs]; exact rising_eq V
          have hzb : zs.length ≤ 2000000 := by omega
          clear r1 r2 r3 hzs hzl
          go_wp2_with fail
          refine Calls.mono Hris.out ?_
          rintro e9 w2 ⟨v6, rfl, ho6, hb6⟩
          rw [Hrz.out] at ho6
          have HR2 : Hid (Rq w w2 sp bM bQ n1 nq1 M1 s1.sub s1.eq V) := R2.out.rq.below hb6
          obtain ⟨p6, cap6, rfl, hcap6, hmx6, hc6⟩ := owns_ints ho6
          have Hc6 : Hid (∀ i (hi : i < zs.length), ∃ g, p6 = some ⟨g, 0, none⟩ ∧ g < w2.heap.size ∧ w2.cell? ⟨g, i, none⟩ = some (.int .i64 (zs[i]'hi))) := by
            intro i hi
            rcases hc6 with ⟨_, _, h0⟩ | ⟨g, h1, h2, _, h3⟩
            · rw [h0] at hi; exact absurd hi (Nat.not_lt_zero _)
            · exact ⟨g, h1, h2, h3 i hi⟩
          obtain ⟨i0, hi0, hzz0, hzz1, hzz2⟩ := info_parts infos35
          have hlo := R2.out.lo
          have hww : w.heap.size ≤ w2.heap.size := HR2.out.sv.base.size
          clear hc6 hcap6 hmx6 ho6 hb6 Hris R2 hi' hi hi1 Hrz
          go_wp2_with fail
          go_loopg [12, 13] zs.length (fun g v0 iv wr => ∃ (i : Nat) (v : Value), v = v0 ∧ iv = .int .i64 i ∧ i ≤ zs.length ∧ g = zs.length - i ∧ Hid (∃ (L : List (Int × List Value × Ty)), L.length = i ∧ L.map (fun x => (x.1, x.2.2)) = (zs.take i).map (fun x => (x, (s1.sub x).app (mkv s1.eq))) ∧ (∀ x ∈ zs.take i, (s1.sub x).count ≤ 400) ∧ wr.ownsRow w2.heap.size 35 6 v L.length (bindRow L) ∧ TysAt (fun b => (b < w.heap.size ∨ w2.heap.size ≤ b) ∧ some b ≠ v.ownBlock) wr (L.map (·.2)) ∧ Below w2.heap.size w2 wr))
          case atStart => exact ⟨0, _, rfl, rfl, by omega, by omega, [], rfl, rfl, (fun x hx => by simp at hx), World.ownsRow_nil _ _ _ _, (fun x hx => by cases hx), Below.refl _ _⟩
          case round =>
            obtain ⟨i, v8, hv8, rfl, hi1, rfl, HR⟩ := hrel
            subst hv8
            by_cases hi : i < zs.length
            · have hi' : (i : Int) < zs.length := by omega
              obtain ⟨g, rfl, hg2, hgc⟩ := Hc6.out i hi
              obtain ⟨L, t1, t2, t3, t4, t5, t6⟩ := HR.out
              clear HR
              have hzi : zs[i]'hi ∈ V := (Hzm.out _).1 (List.getElem_mem hi)
              have htk : (zs.take (i + 1)) = zs.take i ++ [zs[i]'hi] := List.take_succ_eq_append_getElem hi
              have hz6 := t6.size
              have Hcell : Hid (∀ wx, Below w2.heap.size w2 wx → wx.cell? ⟨g, i, none⟩ = some (.int .i64 (zs[i]'hi)) ∧ g < wx.heap.size) := fun wx hx => ⟨(hx.cell (p := ⟨g, i, none⟩) hg2).trans hgc, Nat.lt_of_lt_of_le hg2 hx.size⟩
              generalize zs[i]'hi = x at *
              have hxw := Hwf.out x hzi
              have hap : (Ty.mk 0 x { data := #[] } 0 []).app s1.sub = s1.sub x := Ty.app_var rfl
              have Hgr : Hid (∀ wx, Rq w wx sp bM bQ n1 nq1 M1 s1.sub s1.eq V → _) := fun wx hx => greatR_any w sp bM bQ n1 nq1 M1 s1.sub s1.eq V _ wx 0 x { data := #[] } 0 [] none 0 400 (Nat.le_refl _) hx (var_tyIn w hxw) ⟨var_shaped x, trivial⟩ (by omega) (by omega)
              have Hps : Hid (((Ty.mk 0 x { data := #[] } 0 []).app s1.sub).parts 400 ≤ 400 ↔ (s1.sub x).count ≤ 400) := by unfold Hid; rw [hap]; exact parts_small _
              have Hfu : Hid ((s1.sub x).count ≤ 400 → ∀ wx, Rq w wx sp bM bQ n1 nq1 M1 s1.sub s1.eq V → _) := fun hc wx hx => fullR_any w sp bM bQ n1 nq1 M1 s1.sub s1.eq V _ wx 0 x { data := #[] } 0 [] none 0 (Nat.le_refl _) (by rw [hap]; exact hc) hx (var_tyIn w hxw) ⟨var_shaped x, trivial⟩
              have Hap : Hid ((Ty.mk 0 x { data := #[] } 0 []).fu s1.sub s1.eq = (s1.sub x).app (mkv s1.eq)) := by unfold Hid Ty.fu; rw [hap]
              generalize ((Ty.mk 0 x { data := #[] } 0 []).app s1.sub).parts 400 = pc at *
              have T1 : Hid (L.length = i) := t1
              have T2 : Hid (L.map (fun x => (x.1, x.2.2)) = (zs.take i).map (fun x => (x, (s1.sub x).app (mkv s1.eq)))) := t2
              have T3 : Hid (∀ x ∈ zs.take i, (s1.sub x).count ≤ 400) := t3
              have T4 : Hid (wr.ownsRow w2.heap.size 35 6 v8 L.length (bindRow L)) := t4
              have T5 : Hid (TysAt (fun b => (b < w.heap.size ∨ w2.heap.size ≤ b) ∧ some b ≠ v8.ownBlock) wr (L.map (·.2))) := t5
              have T6 : Hid (Below w2.heap.size w2 wr) := t6
              have Htk : Hid (zs.take (i + 1) = zs.take i ++ [x]) := htk
              have Hka : Hid (Below w2.heap.size w2 (wr.alloc (Obj.cells #[Value.int IntKind.i64 0, Value.int IntKind.i64 x, Value.string { data := #[] }, Value.int IntKind.i64 0, Value.slice none 0 0] 33))) := t6.alloc hz6 _
              have hB0 := Box.new wr (.int .i64 0) (.int .i64 x) (.string { data := #[] }) (.int .i64 0) (.slice none 0 0)
              obtain ⟨y1, y2⟩ := Hcell.out wr t6
              clear t1 t2 t3 t4 t5 t6 htk hap hgc
              go_wp2_with fail
              refine Calls.mono (Hgr.out _ (HR2.out.below Hka.out)) ?_
              rintro e10 w6 ⟨rfl, hb6⟩
              have Hb6 : Hid (Below w2.heap.size w2 w6) := Below.trans Hka.out (hb6.mono Hka.out.size)
              have hB6 := hB0.kp (X := []) (Kp.of_below hb6) (by simp)
              have Hbr6 : Hid (Below wr.heap.size wr w6) := ((Below.refl _ _).alloc (Nat.le_refl _) _).trans (hb6.mono (by simp))
              obtain ⟨x0, x1, x2, x3, x4⟩ := hB6.cells
              have hsz6 : wr.heap.size < w6.heap.size := hB6.lt
              clear hb6 hB0 hB6 Hka Hgr y1 y2
              by_cases hc : (s1.sub x).count ≤ 400
              · have hpc : ¬ 400 < pc := by have := Hps.out.2 hc; omega
                have Hcall : Hid _ := Hfu.out hc w6 (HR2.out.below Hb6.out)
                have Hc : Hid ((s1.sub x).count ≤ 400) := hc
                clear hc Hfu Hps
                go_wp2_with fail
                refine Calls.mono Hcall.out ?_
                rintro e11 w7 hp
                obtain ⟨k3, m3, s3, e3, l3, p3, cap3, rfl, hT3, hA3, hb7⟩ := hp.parts
                clear hp Hcall x0 x1 x2 x3 x4
                rw [Hap.out] at hT3
                have HT3 : Hid ((s1.sub x).app (mkv s1.eq) = .mk k3 m3 s3 e3 l3) := hT3
                have HA3 : Hid _ := hA3
                have Hb7 : Hid (Below w6.heap.size w6 w7) := hb7
                have hbr7 : Below wr.heap.size wr w7 := Hbr6.out.trans (hb7.mono (by omega))
                have Hbr8 : Hid (Below wr.heap.size wr (w7.alloc (Obj.cells #[Value.int IntKind.i64 k3, Value.int IntKind.i64 m3, Value.string s3, Value.int IntKind.i64 e3, Value.slice p3 l3.length cap3] 33))) := hbr7.alloc hbr7.size _
                have H78 : Hid (Below w7.heap.size w7 (w7.alloc (Obj.cells #[Value.int IntKind.i64 k3, Value.int IntKind.i64 m3, Value.string s3, Value.int IntKind.i64 e3, Value.slice p3 l3.length cap3] 33))) := (Below.refl _ _).alloc (Nat.le_refl _) _
                have hB8 := Box.new w7 (.int .i64 k3) (.int .i64 m3) (.string s3) (.int .i64 e3) (.slice p3 l3.length cap3)
                have hz67 := hb7.size
                clear hT3 hA3 hb7 hbr7
                go_upto_region 28 with fail
                generalize w7.alloc (Obj.cells #[Value.int IntKind.i64 k3, Value.int IntKind.i64 m3, Value.string s3, Value.int IntKind.i64 e3, Value.slice p3 l3.length cap3] 33) = w8 at *
                have hd8 : Below w8.heap.size w8 w8.drew := (Below.refl _ _).drew
                have hB8' := hB8.kp (X := []) (Kp.of_below hd8) (by simp)
                obtain ⟨x0, x1, x2, x3, x4⟩ := hB8.cells
                obtain ⟨z0, z1, z2, z3, z4⟩ := hB8'.cells
                have hT68 : Below w2.heap.size w2 w8 := T6.out.trans (Hbr8.out.mono hz6)
                obtain ⟨y1, y2⟩ := Hcell.out w8 hT68
                obtain ⟨y3, y4⟩ := Hcell.out w8.drew (hT68.trans (hd8.mono hT68.size))
                have hrow8 : w8.ownsRow w2.heap.size 35 6 v8 L.length (bindRow L) := owns_keep T4.out Hbr8.out
                have hrow9 : w8.drew.ownsRow w2.heap.size 35 6 v8 L.length (bindRow L) := owns_keep hrow8 hd8
                have hlen := T1.out
                have hll : L.length + 1 ≤ 2000001 := by omega
                have hz8 := hT68.size
                have hlb := hB8.lt
                have HB8 : Hid _ := hB8
                have HT68 : Hid _ := hT68
                clear hlen hB8 hB8' hT68
                go_region_law ((refine step_append_lies _ (by rfl) (.tmp 113) (.tmp 120) 25 (by rfl) w2.heap.size 35 i0 (.agg #[.int .i64 0, .int .i64 0, .int .i64 0, .string { data := #[] }, .int .i64 0, .slice none 0 0]) 6 72 slice25 hi0 hzz0 hzz1 hzz2 rfl (by decide) v8 L.length (bindRow L) (by rfl) (hrow9.alloc _) ⟨w8.heap.size, 0, none⟩ 1 1 [.int .i64 x, .int .i64 k3, .int .i64 m3, .string s3, .int .i64 e3, .slice p3 l3.length cap3] (by rfl) rfl (cells6_new w8.drew _ _ _ _ _ _ _) (one6_mem _ _ _ _ _ _ _ _) (by decide) (by unfold maxLen; omega) (by omega) (by simp; omega) (w8.heap.size + 1) (by simp) ?_; intro g9 cap9 w9 ho9 hg9 hat9 hlt9))
                all_goals
                  have hv8 : ∀ g, v8.ownBlock = some g → w2.heap.size ≤ g ∧ g < wr.heap.size := fun g hg => T4.out.lt g hg
                  have hd9 : Below w8.heap.size w8 (w8.drew.alloc (Obj.cells #[Value.int IntKind.i64 x, Value.int IntKind.i64 k3, Value.int IntKind.i64 m3, Value.string s3, Value.int IntKind.i64 e3, Value.slice p3 l3.length cap3] 35)) := hd8.alloc hd8.size _
                  have h79 : Below w7.heap.size w7 _ := Below.trans H78.out (hd9.mono (Below.size H78.out))
                  have hTs : TysAt (fun b => (b < w.heap.size ∨ w2.heap.size ≤ b) ∧ some b ≠ (Value.slice (some ⟨g9, 0, none⟩) (L.length + 1) cap9).ownBlock) w9 (L.map (·.2) ++ [([.int .i64 k3, .int .i64 m3, .string s3, .int .i64 e3, .slice p3 l3.length cap3], .mk k3 m3 s3 e3 l3)]) := by
                    refine TysAt.append2 (w2 := w7) T5.out (TyAt.keep (P := fun b => b < w.heap.size ∨ w6.heap.size ≤ b) HA3.out fun b hb _ => ⟨rfl, by omega, fun hh => ?_⟩) (Hbr6.out.trans (Hb7.out.mono (by omega))) h79 hg9 ?_
                    · have := hv8 b hh.symm
                      omega
                    · rcases hat9 with h | h
                      · left
                        rw [h]
                        rfl
                      · right
                        rw [h]
                        simp [Value.ownBlock]
                  have hb9 : Below w2.heap.size w2 w9 := by
                    have h1 : Below w2.heap.size w2 _ := HT68.out.trans (hd9.mono hz8)
                    exact h1.grown hg9 h1.size (fun g hg => (hv8 g hg).1)
                  have Q : Hid (∃ (L2 : List (Int × List Value × Ty)), L2.length = i + 1 ∧ L2.map (fun x => (x.1, x.2.2)) = (zs.take (i + 1)).map (fun x => (x, (s1.sub x).app (mkv s1.eq))) ∧ (∀ x ∈ zs.take (i + 1), (s1.sub x).count ≤ 400) ∧ w9.ownsRow w2.heap.size 35 6 (.slice (some ⟨g9, 0, none⟩) (L.length + 1) cap9) L2.length (bindRow L2) ∧ TysAt (fun b => (b < w.heap.size ∨ w2.heap.size ≤ b) ∧ some b ≠ (Value.slice (some ⟨g9, 0, none⟩) (L.length + 1) cap9).ownBlock) w9 (L2.map (·.2)) ∧ Below w2.heap.size w2 w9) := by
                    refine ⟨L ++ [(x, [.int .i64 k3, .int .i64 m3, .string s3, .int .i64 e3, .slice p3 l3.length cap3], .mk k3 m3 s3 e3 l3)], by simp; exact T1.out, ?_, ?_, ?_, ?_, hb9⟩
                    · rw [List.map_append, Htk.out, List.map_append, T2.out]
                      simp [HT3.out]
                    · intro y hy
                      rw [Htk.out] at hy
                      rcases List.mem_append.1 hy with h | h
                      · exact T3.out y h
                      · obtain rfl : y = x := by simpa using h
                        exact Hc.out
                    · rw [bindRow_snoc, List.length_append]
                      exact ho9
                    · rw [List.map_append]
                      exact hTs
                  clear hTs hb9 h79 hd9 hv8 ho9 hg9 hat9 hlt9 hrow8 hrow9 HB8 HT68 Hbr8 H78 HA3 HT3 Hb7 Hbr6 Hb6 T1 T2 T3 T4 T5 T6 Htk Hcell Hap Hc x0 x1 x2 x3 x4 z0 z1 z2 z3 z4 y1 y2 y3 y4
                  go_wp2
                  go_roundg (zs.length - (i + 1))
                  case measure => omega
                  case rel => exact ⟨i + 1, _, rfl, by first | rfl | (congr 1; omega) | go_num, by omega, rfl, Q⟩
              · have hpc : 400 < pc := by have h9 : ¬ pc ≤ 400 := fun h => hc (Hps.out.1 h); omega
                have Hc : Hid (400 < (s1.sub x).count) := by unfold Hid; omega
                clear hc Hfu Hps
                go_wp2
                refine bodyPost_ret (v := .tuple #[.slice none 0 0, .int .i64 12, .int .i64 ps.length]) (by simp [results, Try.results11, go_sem]) rfl (SolveRPost.big s1 x Hall.out R1.out (by rw [← HV.out]; exact hzi) Hc.out rfl (HR2.out.sv.base.trans (Hb6.out.mono hww)))
            · have hi' : ¬ (i : Int) < zs.length := by omega
              go_wp2
              obtain ⟨L, t1, t2, t3, t4, t5, t6⟩ := HR.out
              rw [List.take_of_length_le (by omega)] at t2 t3
              refine bodyPost_ret (v := .tuple #[v8, .int .i64 0, .int .i64 0]) (by simp [results, Try.results11, go_sem]) rfl (SolveRPost.ok s1 v8 w2.heap.size L Hall.out R1.out (fun x hx => t3 x ((Hzm.out x).2 (by rw [HV.out]; exact hx))) (by rw [← HV.out, ← Hzs.out]; exact t2) rfl t4 ?_ (HR2.out.sv.base.trans (t6.mono hww)))
              exact fun y hy => (t5 y hy).keep fun b hb _ => ⟨rfl, trivial⟩
end Go.Proofs.Ytbgpjaniohpfaaa
