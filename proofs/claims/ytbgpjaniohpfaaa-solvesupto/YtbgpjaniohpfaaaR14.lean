/-
  What a solver answers is one thing; the law's word 'solved'; the law Solves, walked.
-/
import Derived.Test.YtbgpjaniohpfaaaR13
import Derived.Test.YtbgpjaniohpfaaaR10
import Derived.Test.YtbgpjaniohpfaaaK22
namespace Go.Proofs.Ytbgpjaniohpfaaa
open Go.RowKit Go.Deep
/-- What is to be answered of pairs: kind, place, binds. -/
inductive Res (ps : List (Ty × Ty)) : Int → Int → List (Int × Ty) → Prop
  | arg (i : Nat) (hi : i < ps.length) (h1 : ∀ j, j < i → ∀ (hj' : j < ps.length), (ps[j]'hj').1.proper = true ∧ (ps[j]'hj').2.proper = true) (h2 : ¬ ((ps[i]'hi).1.proper = true ∧ (ps[i]'hi).2.proper = true)) : Res ps 21 i []
  | fail (i : Nat) (hi : i < ps.length) (s1 s2 : St) (e : Int) (hp : ∀ p ∈ ps, p.1.proper = true ∧ p.2.proper = true) (h1 : Uni (St.start ps) (ps.take i) 0 s1) (h2 : Uni s1 [ps[i]'hi] e s2) (h0 : ¬ e = 0) : Res ps e i []
  | big (s1 : St) (x : Int) (hp : ∀ p ∈ ps, p.1.proper = true ∧ p.2.proper = true) (h1 : Uni (St.start ps) ps 0 s1) (hx : x ∈ allVars ps) (h2 : 400 < (s1.sub x).count) : Res ps 12 ps.length []
  | ok (s1 : St) (hp : ∀ p ∈ ps, p.1.proper = true ∧ p.2.proper = true) (h1 : Uni (St.start ps) ps 0 s1) (hc : ∀ x ∈ allVars ps, (s1.sub x).count ≤ 400) : Res ps 0 0 (((allVars ps).mergeSort leI).map (fun x => (x, (s1.sub x).app (mkv s1.eq))))
theorem uni_upto {ps : List (Ty × Ty)} {i : Nat} (hi : i < ps.length) {s1 s2 : St} {e : Int} (h1 : Uni (St.start ps) (ps.take i) 0 s1) (h2 : Uni s1 [ps[i]'hi] e s2) : Uni (St.start ps) (ps.take (i + 1)) e s2 := by
  rw [List.take_succ_eq_append_getElem hi]
  exact h1.then rfl h2
theorem uni_far {ps : List (Ty × Ty)} {i j : Nat} (hij : i ≤ j) {s2 : St} {e : Int} (h : Uni (St.start ps) (ps.take i) e s2) (h0 : ¬ e = 0) : Uni (St.start ps) (ps.take j) e s2 := by
  have hs : ps.take j = ps.take i ++ (ps.drop i).take (j - i) := by
    rw [← List.take_add]
    congr 1
    omega
  rw [hs]
  exact h.fail h0 _
theorem Res.det {ps : List (Ty × Ty)} {k a k' a' : Int} {Bs Bs' : List (Int × Ty)} (h : Res ps k a Bs) (h' : Res ps k' a' Bs') : k = k' ∧ a = a' ∧ Bs = Bs' := by
  cases h with
  | arg i hi h1 h2 =>
    cases h' with
    | arg i' hi' h1' h2' =>
      have : i = i' := by
        by_cases hlt : i < i'
        · exact absurd (h1' i hlt hi) h2
        · by_cases hgt : i' < i
          · exact absurd (h1 i' hgt hi') h2'
          · omega
      subst this
      exact ⟨rfl, rfl, rfl⟩
    | fail i' hi' s1 s2 e hp _ _ _ => exact absurd (hp _ (List.getElem_mem hi)) h2
    | big s1 x hp _ _ _ => exact absurd (hp _ (List.getElem_mem hi)) h2
    | ok s1 hp _ _ => exact absurd (hp _ (List.getElem_mem hi)) h2
  | fail i hi s1 s2 e hp h1 h2 h0 =>
    have hu := uni_upto hi h1 h2
    have hw := uni_far (j := ps.length) (by omega) hu h0
    rw [List.take_length] at hw
    cases h' with
    | arg i' hi' h1' h2' => exact absurd (hp _ (List.getElem_mem hi')) h2'
    | fail i' hi' t1 t2 e' hp' g1 g2 g0 =>
      have hv := uni_upto hi' g1 g2
      have hi0 : i = i' := by
        by_cases hlt : i < i'
        · exact absurd ((uni_far (j := i') (by omega) hu h0).det g1).1 h0
        · by_cases hgt : i' < i
          · exact absurd ((uni_far (j := i) (by omega) hv g0).det h1).1 g0
          · omega
      subst hi0
      exact ⟨(hu.det hv).1, rfl, rfl⟩
    | big t1 x hp' g1 _ _ => exact absurd (hw.det g1).1 h0
    | ok t1 hp' g1 _ => exact absurd (hw.det g1).1 h0
  | big s1 x hp h1 hx h2 =>
    cases h' with
    | arg i' hi' h1' h2' => exact absurd (hp _ (List.getElem_mem hi')) h2'
    | fail i' hi' t1 t2 e' hp' g1 g2 g0 =>
      have hw := uni_far (j := ps.length) (by omega) (uni_upto hi' g1 g2) g0
      rw [List.take_length] at hw
      exact absurd (hw.det h1).1 g0
    | big t1 x' hp' g1 _ _ => exact ⟨rfl, rfl, rfl⟩
    | ok t1 hp' g1 hc =>
      obtain rfl := (h1.det g1).2
      have := hc x hx
      omega
  | ok s1 hp h1 hc =>
    cases h' with
    | arg i' hi' h1' h2' => exact absurd (hp _ (List.getElem_mem hi')) h2'
    | fail i' hi' t1 t2 e' hp' g1 g2 g0 =>
      have hw := uni_far (j := ps.length) (by omega) (uni_upto hi' g1 g2) g0
      rw [List.take_length] at hw
      exact absurd (hw.det h1).1 g0
    | big t1 x' hp' g1 hx h2 =>
      obtain rfl := (h1.det g1).2
      have := hc x' hx
      omega
    | ok t1 hp' g1 hc' =>
      obtain rfl := (h1.det g1).2
      exact ⟨rfl, rfl, rfl⟩
/-- The program's answer. -/
inductive SolveGot (w : World) (ps : List (Ty × Ty)) (e' : Ending) (w' : World) : Prop
  | mk (p : Option Addr) (cap : Nat) (Bs : List (Int × Ty)) (kind «at» : Int) (he : e' = .returned (.tuple #[.slice p Bs.length cap, .agg #[.int .i64 kind, .int .i64 «at»]])) (hb : Below w.heap.size w w') (hB : BindsRow w' p Bs) (hr : Res ps kind «at» Bs) : SolveGot w ps e' w'
/-- The document's answer. -/
inductive SolveRGot (w : World) (ps : List (Ty × Ty)) (e' : Ending) (w' : World) : Prop
  | mk (p : Option Addr) (cap : Nat) (Bs : List (Int × Ty)) (kind «at» : Int) (he : e' = .returned (.tuple #[.slice p Bs.length cap, .int .i64 kind, .int .i64 «at»])) (hb : Below w.heap.size w w') (hB : BindsRow w' p Bs) (hr : Res ps kind «at» Bs) : SolveRGot w ps e' w'
theorem solve_got (w : World) (p : Option Addr) (cap : Nat) (ps : List (Ty × Ty)) (hP : PairsIn w p ps) (hcnt : allCount ps ≤ 1048576) : Calls Try.prog 7 #[.slice p ps.length cap] w fun e' w' => SolveGot w ps e' w' := by
  refine (solve_any w p cap ps hP hcnt).mono ?_
  intro e' w' h
  cases h with
  | arg h =>
    cases h with
    | bad i hi h1 h2 he hb => exact SolveGot.mk none 0 [] 21 i he hb (none_row _) (Res.arg i hi h1 h2)
  | fail i hi s1 s2 e hp h1 h2 h0 he hb => exact SolveGot.mk none 0 [] e i he hb (none_row _) (Res.fail i hi s1 s2 e hp h1 h2 h0)
  | big s1 x hp h1 hx h2 he hb => exact SolveGot.mk none 0 [] 12 ps.length he hb (none_row _) (Res.big s1 x hp h1 hx h2)
  | ok s1 v L hp h1 hc hL he ho hT hb =>
    obtain ⟨pv, cv, rfl, hrow⟩ := binds_row ho hT
    rw [hL] at he hrow
    exact SolveGot.mk pv cv _ 0 0 he hb hrow (Res.ok s1 hp h1 hc)
theorem solveR_got (w : World) (p : Option Addr) (cap : Nat) (ps : List (Ty × Ty)) (hP : PairsIn w p ps) (hcnt : allCount ps ≤ 1048576) : Calls Try.prog 11 #[.slice p ps.length cap] w fun e' w' => SolveRGot w ps e' w' := by
  refine (solveR_any w p cap ps hP hcnt).mono ?_
  intro e' w' h
  cases h with
  | arg i hi h1 h2 he hb => exact SolveRGot.mk none 0 [] 21 i he hb (none_row _) (Res.arg i hi h1 h2)
  | fail i hi s1 s2 e hp h1 h2 h0 he hb => exact SolveRGot.mk none 0 [] e i he hb (none_row _) (Res.fail i hi s1 s2 e hp h1 h2 h0)
  | big s1 x hp h1 hx h2 he hb => exact SolveRGot.mk none 0 [] 12 ps.length he hb (none_row _) (Res.big s1 x hp h1 hx h2)
  | ok s1 v base L hp h1 hc hL he ho hT hb =>
    obtain ⟨pv, cv, rfl, hrow⟩ := binds_row ho hT
    rw [hL] at he hrow
    exact SolveRGot.mk pv cv _ 0 0 he hb hrow (Res.ok s1 hp h1 hc)
set_option maxHeartbeats 2000000 in
set_option maxRecDepth 100000 in
theorem solved_any (w : World) (p : Option Addr) (cap : Nat) (ps : List (Ty × Ty)) (hP : PairsIn w p ps) (hcnt : allCount ps ≤ 1048576) :
    Calls Try.prog 5 #[.slice p ps.length cap] w fun e' w' => e' = .returned (.bool true) ∧ Below w.heap.size w w' := by
  have HP : Hid (PairsIn w p ps) := hP
  have Hcnt : Hid (allCount ps ≤ 1048576) := hcnt
  have Hs : Hid _ := solve_got w p cap ps hP hcnt
  have hlen := hP.len
  clear hP hcnt
  go_enter Try.func5, Try.ntmps5
  go_wp2_with fail
  refine Calls.mono Hs.out ?_
  rintro e1 w1 hp
  cases hp with
  | mk p1 cap1 Bs kind pl he hb1 hB1 hr1 =>
  subst he
  have HB1 : Hid (BindsRow w1 p1 Bs) := hB1
  have Hr1 : Hid (Res ps kind pl Bs) := hr1
  have Hb1 : Hid (Below w.heap.size w w1) := hb1
  clear hB1 hr1 hb1 Hs
  have ha : Below w1.heap.size w1 (w1.alloc (Obj.cells #[Value.int IntKind.i64 kind, Value.int IntKind.i64 pl] 28)) := (Below.refl _ _).alloc (Nat.le_refl _) _
  have hF : FBox (w1.alloc (Obj.cells #[Value.int IntKind.i64 kind, Value.int IntKind.i64 pl] 28)) w1.heap.size kind pl := (MapKept.heap_alloc w1 _).1
  have hbw : Below w.heap.size w (w1.alloc (Obj.cells #[Value.int IntKind.i64 kind, Value.int IntKind.i64 pl] 28)) := Hb1.out.trans (ha.mono Hb1.out.size)
  have Hs : Hid _ := solveR_got _ p cap ps (HP.out.below hbw) Hcnt.out
  have HF : Hid _ := hF
  have Hbw : Hid _ := hbw
  have HB2 : Hid _ := HB1.out.below ha
  have hzz : w1.heap.size < (w1.alloc (Obj.cells #[Value.int IntKind.i64 kind, Value.int IntKind.i64 pl] 28)).heap.size := by simp
  clear ha hF hbw HB1
  go_wp2_with fail
  generalize w1.alloc (Obj.cells #[Value.int IntKind.i64 kind, Value.int IntKind.i64 pl] 28) = w2 at *
  refine Calls.mono Hs.out ?_
  rintro e1 w3 hp
  cases hp with
  | mk p3 cap3 Bs3 kind3 pl3 he hb3 hB3 hr3 =>
  subst he
  obtain ⟨rfl, rfl, rfl⟩ := Hr1.out.det hr3
  have HB3 : Hid _ := HB2.out.below hb3
  have HB4 : Hid _ := hB3
  have HF3 : Hid (FBox w3 w1.heap.size kind pl) := FBox.kp (X := []) HF.out (Kp.of_below hb3) (by simp)
  have Hb3 : Hid (Below w.heap.size w w3) := Below.trans Hbw.out (hb3.mono (Below.size Hbw.out))
  have Hsb : Hid _ := sameBinds_row w3 p1 p3 cap1 cap3 Bs HB3.out HB4.out
  have hz3 : w1.heap.size < w3.heap.size := (Array.getElem?_eq_some_iff.1 HF3.out).1
  clear hb3 hB3 hr3 Hs HB2 HB3 HB4 Hr1
  go_wp2_with fail
  refine Calls.mono Hsb.out ?_
  rintro e1 w4 ⟨rfl, hb4⟩
  obtain ⟨f0, f1, _, _⟩ := (FBox.kp (X := []) HF3.out (Kp.of_below hb4) (by simp)).cells
  have Hb4 : Hid (Below w.heap.size w w4) := Below.trans Hb3.out (hb4.mono (Below.size Hb3.out))
  have hz4 : w1.heap.size < w4.heap.size := Nat.lt_of_lt_of_le hz3 hb4.size
  clear hb4 Hsb
  go_wp2
  go_ret
  exact ⟨rfl, Hb4.out⟩
set_option maxHeartbeats 2000000 in
set_option maxRecDepth 100000 in
theorem solves_any (w : World) (p : Option Addr) (cap : Nat) (ps : List (Ty × Ty)) (hP : PairsIn w p ps) (hcnt : allCount ps ≤ 1048576) :
    Calls Try.prog 3 #[.slice p ps.length cap] w fun e' w' => e' = .returned (.bool true) ∧ Below w.heap.size w w' := by
  have HP : Hid (PairsIn w p ps) := hP
  have Hcnt : Hid (allCount ps ≤ 1048576) := hcnt
  have hlen := hP.len
  clear hP hcnt
  go_enter Try.func3, Try.ntmps3
  go_wp2_with (go_at_call 6; refine (example_any _).mono ?_; rintro e1 w1 ⟨g, ga, gb, rfl, hb1, hg1, hg1', hc1, hA1, hB1⟩; have Hb1 : Hid (Below w.heap.size w w1) := hb1; have Hx1 : Hid (PairsIn w1 (some ⟨g, 0, none⟩) exPs) := ex_pairs hg1 hc1 hA1 hB1; clear hb1 hc1 hA1 hB1 hg1 hg1')
  refine (solved_any w1 (some ⟨g, 0, none⟩) 1 exPs Hx1.out (by decide)).mono ?_
  rintro e2 w2 ⟨rfl, hb2⟩
  have Hb2 : Hid (Below w.heap.size w w2) := Hb1.out.trans (hb2.mono Hb1.out.size)
  clear hb2 Hb1 Hx1
  go_wp2_with fail
  refine (solved_any w2 p cap ps (HP.out.below Hb2.out) Hcnt.out).mono ?_
  rintro e2 w3 ⟨rfl, hb3⟩
  have Hb3 : Hid (Below w.heap.size w w3) := Hb2.out.trans (hb3.mono Hb2.out.size)
  clear hb3 Hb2
  go_wp2
  go_ret
  exact ⟨rfl, Hb3.out⟩
end Go.Proofs.Ytbgpjaniohpfaaa
