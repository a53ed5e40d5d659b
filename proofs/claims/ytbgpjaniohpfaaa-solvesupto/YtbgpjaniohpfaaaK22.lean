/-
  The law General, walked.
-/
import Derived.Test.YtbgpjaniohpfaaaK21
namespace Go.Proofs.Ytbgpjaniohpfaaa
open Go.RowKit Go.Deep
theorem TyAt.later {P : Nat → Prop} {w w' : World} {cs : List Value} {T : Ty} (h : TyAt P w cs T) (hb : Below w.heap.size w w') : TyAt P w' cs T := h.keep fun b hp hlt => ⟨hb.block b hlt, hp⟩
/-- A block in which no type lies. -/
def Small5 (w : World) (b : Nat) : Prop := ∀ o, ∃ j, j < 5 ∧ w.cell? ⟨b, o + j, none⟩ = none
theorem TyIn.kp5 {X : List Nat} {w w' : World} {cs : List Value} {T : Ty} (h : TyIn w cs T) (hb : Kp X w w') (hX : ∀ x ∈ X, Small5 w x) : TyIn w' cs T := by
  induction h with
  | mk k n s e l p cap b o C hp hw hc hr ih =>
    refine TyIn.mk k n s e l p cap b o C hp hw ?_ ih
    intro i hi j hj
    have hl : (C i).length = 5 := by
      have := hr i hi
      cases hC : l[i] with
      | mk k' n' s' e' l' =>
        rw [hC] at this
        generalize C i = cs at this
        cases this
        rfl
    have h1 := hc i hi j hj
    rw [List.getElem?_eq_getElem (by omega)] at h1
    have hbX : b ∉ X := by
      intro hx
      obtain ⟨j', hj', hn⟩ := hX b hx (o + i * 5)
      have g := hc i hi j' hj'
      rw [List.getElem?_eq_getElem (by omega), ← Nat.add_assoc, hn] at g
      cases g
    have := hb.cell (p := ⟨b, o + (i * 5 + j), none⟩) h1 hbX
    rw [this, List.getElem?_eq_getElem (by omega)]
theorem BindsRow.kp5 {X : List Nat} {w w' : World} {p : Option Addr} {Bs : List (Int × Ty)} (h : BindsRow w p Bs) (hk : Kp X w w') (hX : ∀ x ∈ X, Small5 w x) : BindsRow w' p Bs :=
  ⟨h.len, fun i hi => by
    obtain ⟨b, o, h1, h2, h3⟩ := h.get i hi
    refine ⟨b, o, h1, Nat.lt_of_lt_of_le h2 hk.size, ?_⟩
    generalize Bs[i]'hi = pr at *
    cases h3 with
    | mk x k n s e l q cap1 c0 c1 c2 c3 c4 c5 hT =>
      have hb : b ∉ X := by
        intro hx
        obtain ⟨j, hj, hn⟩ := hX b hx (o + i * 6)
        match j, hj with
        | 0, _ => rw [Nat.add_zero] at hn; rw [hn] at c0; cases c0
        | 1, _ => rw [hn] at c1; cases c1
        | 2, _ => rw [hn] at c2; cases c2
        | 3, _ => rw [hn] at c3; cases c3
        | 4, _ => rw [hn] at c4; cases c4
      exact BindCells.mk x k n s e l q cap1 (hk.cell c0 hb) (hk.cell c1 hb) (hk.cell c2 hb) (hk.cell c3 hb) (hk.cell c4 hb) (hk.cell c5 hb) (hT.kp5 hk hX)⟩
theorem FBox.small5 {w : World} {b : Nat} {x y : Int} (h : FBox w b x y) : Small5 w b := by
  intro o
  refine ⟨2, by omega, ?_⟩
  unfold FBox at h
  simp [World.cell?, h]
theorem FBox.set {w : World} {b : Nat} {x y : Int} (h : FBox w b x y) (x' y' : Int) : FBox ((w.setCell ⟨b, 0, none⟩ (.int .i64 x')).setCell ⟨b, 1, none⟩ (.int .i64 y')) b x' y' := by
  unfold FBox at *
  simp [World.setCell, Array.getElem?_modify, h]
/-- What the second loop leaves of a pair. -/
def GoodPair (Sm : List (Int × Ty)) (pr : Ty × Ty) : Prop := (pr.1.proper = true ∧ pr.2.proper = true) ∧ (pr.1.put Sm).bare = (pr.2.put Sm).bare
set_option maxHeartbeats 8000000 in
set_option maxRecDepth 100000 in
theorem general_any (w : World) (p : Option Addr) (cap : Nat) (ps : List (Ty × Ty)) (hP : PairsIn w p ps) (hcnt : allCount ps ≤ 1048576) (pS : Option Addr) (capS : Nat) (Sm : List (Int × Ty)) (hS : BindsRow w pS Sm) :
    Calls Try.prog 4 #[.slice p ps.length cap, .slice pS Sm.length capS] w fun e' w' => e' = .returned (.bool true) ∧ Below w.heap.size w w' := by
  have hlen := hP.len
  have HP : Hid (PairsIn w p ps) := hP
  have HS : Hid (BindsRow w pS Sm) := hS
  have Hcnt : Hid (allCount ps ≤ 1048576) := hcnt
  clear hP hS hcnt
  go_enter Try.func4, Try.ntmps4
  go_wp2_with (go_at_call 6; refine (example_any _).mono ?_; rintro e1 w1 ⟨g, ga, gb, rfl, hb1, hg1, hg1', hc1, hA1, hB1⟩; have Hb1 : Hid (Below w.heap.size w w1) := hb1; have Hx1 : Hid (PairsIn w1 (some ⟨g, 0, none⟩) exPs) := ex_pairs hg1 hc1 hA1 hB1; clear hb1 hc1 hA1 hB1 hg1 hg1')
  refine (ex_solve w1 (some ⟨g, 0, none⟩) 1 Hx1.out).mono ?_
  rintro e2 w2 ⟨b2, o2, cap2, rfl, hb2, hbl2, n1, n2⟩
  have hk3 : Below w2.heap.size w2 (w2.alloc (Obj.cells #[Value.int IntKind.i64 0, Value.int IntKind.i64 0] 28)) := (Below.refl _ _).alloc (Nat.le_refl _) _
  have n1' : (w2.alloc (Obj.cells #[Value.int IntKind.i64 0, Value.int IntKind.i64 0] 28)).cell? ⟨b2, o2 + 3, none⟩ = some (.string { data := #[98, 111, 111, 108] }) := (hk3.cell (p := ⟨b2, o2 + 3, none⟩) hbl2).trans n1
  have n2' : (w2.alloc (Obj.cells #[Value.int IntKind.i64 0, Value.int IntKind.i64 0] 28)).cell? ⟨b2, o2 + 9, none⟩ = some (.string { data := #[105, 110, 116] }) := (hk3.cell (p := ⟨b2, o2 + 9, none⟩) hbl2).trans n2
  have hF3 : FBox (w2.alloc (Obj.cells #[Value.int IntKind.i64 0, Value.int IntKind.i64 0] 28)) w2.heap.size 0 0 := (MapKept.heap_alloc w2 _).1
  have hz1 := Hb1.out.size
  have hz2 := hb2.size
  have HW2 : Hid (Below w.heap.size w w2) := Hb1.out.trans (hb2.mono hz1)
  have HK3 : Hid _ := hk3
  have HF3 : Hid _ := hF3
  clear hb2 hk3 hF3 Hb1 Hx1 n1 n2
  go_wp2_with fail
  generalize w2.alloc (Obj.cells #[Value.int IntKind.i64 0, Value.int IntKind.i64 0] 28) = w3 at *
  have HW3 : Hid (Below w.heap.size w w3) := HW2.out.trans (Below.mono HK3.out (by omega))
  refine (solve_out w3 p cap ps (HP.out.below HW3.out) Hcnt.out).mono ?_
  rintro e4 w4 hp
  cases hp with
  | mk pB capB Bs kind «at» he hb4 hB4 ha4 hc4 hw4 =>
  subst he
  generalize hFF : w2.heap.size = F at *
  have hF4 : FBox w4 F 0 0 := FBox.kp (X := []) HF3.out (Kp.of_below hb4) (by simp)
  obtain ⟨f0, f1, f2, f3⟩ := hF4.cells
  have hFw : w.heap.size ≤ F := by omega
  have hkF : Kp [F] w4 ((w4.setCell ⟨F, 0, none⟩ (.int .i64 kind)).setCell ⟨F, 1, none⟩ (.int .i64 «at»)) := (Kp.setCell w4 ⟨F, 0, none⟩ (by simp) _).trans (Kp.setCell _ ⟨F, 1, none⟩ (by simp) _)
  have hWF : Below w.heap.size w ((w4.setCell ⟨F, 0, none⟩ (.int .i64 kind)).setCell ⟨F, 1, none⟩ (.int .i64 «at»)) := by
    have h4 : Below w.heap.size w w4 := HW3.out.trans (hb4.mono HW3.out.size)
    exact h4.trans (hkF.below h4.size (by simp; omega))
  have HBF : Hid _ := hB4.kp5 hkF (by intro x hx; obtain rfl : x = F := by simpa using hx
                                      exact hF4.small5)
  have HFF : Hid _ := hF4.set kind «at»
  have HWF : Hid _ := hWF
  have Ha : Hid (Answer ps kind Bs) := ha4
  have Hc : Hid (∀ b ∈ Bs, b.2.count ≤ 400) := hc4
  have Hw : Hid (∀ b ∈ Bs, (Lit.int .i64 b.1).wf = true) := hw4
  have hblen := hB4.len
  have hslen := HS.out.len
  clear hF4 hkF hWF hb4 hB4 ha4 hc4 hw4 HF3 HK3 HW2 HW3 n1' n2' hbl2 hz1 hz2 hFF
  go_upto_if 58 with fail
  generalize (w4.setCell ⟨F, 0, none⟩ (.int .i64 kind)).setCell ⟨F, 1, none⟩ (.int .i64 «at») = wF at *
  clear f0 f1 f2 f3
  have hFl : F < wF.heap.size := (Array.getElem?_eq_some_iff.1 (show FBox wF F kind «at» from HFF.out)).1
  have hwF : w.heap.size ≤ wF.heap.size := Below.size HWF.out
  have HPF : Hid (PairsIn wF p ps) := HP.out.below HWF.out
  have HSF : Hid (BindsRow wF pS Sm) := HS.out.below HWF.out
  go_cut [8, 9, 10, 11] from 58 to 83 (fun _ _ _ _ wx => Hid (Below wF.heap.size wF wx))
  case first =>
    by_cases hk0 : kind = 0
    · have hk0' : (kind == 0) = true := by simpa using hk0
      have hok := Ha.out.ok hk0
      have Hok : Hid ((∀ p ∈ ps, p.1.proper = true ∧ p.2.proper = true) ∧ (∀ p ∈ ps, (p.1.put Bs).bare = (p.2.put Bs).bare)) := hok
      clear hok hk0
      rw [hk0']
      go_wp2_with fail
      clear hk0'
      go_loopg [8] ps.length (fun g iv wr => ∃ (i : Nat), iv = .int .i64 i ∧ i ≤ ps.length ∧ g = ps.length - i ∧ Hid (Below wF.heap.size wF wr))
      case atStart => exact ⟨0, rfl, by omega, by omega, Below.refl _ _⟩
      case round =>
        obtain ⟨i, rfl, hi1, rfl, HR⟩ := hrel
        by_cases hi : i < ps.length
        · have hi' : (i : Int) < ps.length := by omega
          obtain ⟨b, o, rfl, hbw, hpc⟩ := HPF.out.get i hi
          have hbr := HR.out
          clear HR
          have hbw' := Nat.lt_of_lt_of_le hbw hbr.size
          have hpp := Hok.out.1 _ (List.getElem_mem hi)
          have hbare := Hok.out.2 _ (List.getElem_mem hi)
          generalize ps[i]'hi = pr at *
          cases hpc with
          | mk k n s e l q cap1 k' n' s' e' l' q' cap' c0 c1 c2 c3 c4 c5 c6 c7 c8 c9 hA hB =>
          rw [← hbr.cell (p := ⟨b, o + i * 10, none⟩) hbw] at c0
          rw [← hbr.cell (p := ⟨b, o + i * 10 + 1, none⟩) hbw] at c1
          rw [← hbr.cell (p := ⟨b, o + i * 10 + 2, none⟩) hbw] at c2
          rw [← hbr.cell (p := ⟨b, o + i * 10 + 3, none⟩) hbw] at c3
          rw [← hbr.cell (p := ⟨b, o + i * 10 + 4, none⟩) hbw] at c4
          have hcA := ((Ty.proper_iff _).1 hpp.1).1
          have hcB := ((Ty.proper_iff _).1 hpp.2).1
          have Hbare : Hid (((Ty.mk k n s e l).put Bs).bare = ((Ty.mk k' n' s' e' l').put Bs).bare) := hbare
          clear hbare hpp
          have hcall1 := put_any wF pB capB Bs HBF.out (.mk k n s e l) wr k n s e l q cap1 rfl hA hcA hbr
          have Hcall1 : Hid _ := hcall1
          clear hcall1
          go_wp2_with fail
          refine Calls.mono Hcall1.out ?_
          rintro e6 w6 hp
          obtain ⟨k3, m3, s3, e3, l3, p3, cap3, rfl, hT3, hA3, hb6⟩ := hp.parts
          clear hp Hcall1
          have hz6 := hb6.size
          have hbF6 : Below wF.heap.size wF w6 := hbr.trans (hb6.mono hbr.size)
          have hb7 : Below w6.heap.size w6 (w6.alloc (Obj.cells #[.int .i64 k3, .int .i64 m3, .string s3, .int .i64 e3, .slice p3 l3.length cap3] 33)) := (Below.refl _ _).alloc (Nat.le_refl _) _
          have hbF7 : Below wF.heap.size wF (w6.alloc (Obj.cells #[.int .i64 k3, .int .i64 m3, .string s3, .int .i64 e3, .slice p3 l3.length cap3] 33)) := hbF6.trans (hb7.mono hbF6.size)
          have hX1 := Box.new w6 (.int .i64 k3) (.int .i64 m3) (.string s3) (.int .i64 e3) (.slice p3 l3.length cap3)
          have hz7 : w6.heap.size < (w6.alloc (Obj.cells #[.int .i64 k3, .int .i64 m3, .string s3, .int .i64 e3, .slice p3 l3.length cap3] 33)).heap.size := by simp
          have d5 := (hbF7.cell (p := ⟨b, o + i * 10 + 5, none⟩) hbw).trans c5
          have d6 := (hbF7.cell (p := ⟨b, o + i * 10 + 6, none⟩) hbw).trans c6
          have d7 := (hbF7.cell (p := ⟨b, o + i * 10 + 7, none⟩) hbw).trans c7
          have d8 := (hbF7.cell (p := ⟨b, o + i * 10 + 8, none⟩) hbw).trans c8
          have d9 := (hbF7.cell (p := ⟨b, o + i * 10 + 9, none⟩) hbw).trans c9
          have hcall2 := put_any wF pB capB Bs HBF.out (.mk k' n' s' e' l') _ k' n' s' e' l' q' cap' rfl hB hcB hbF7
          have Hcall2 : Hid _ := hcall2
          have HT3 : Hid _ := hT3
          have HA3 : Hid _ := hA3
          have HX1 : Hid _ := hX1
          have Hb7 : Hid _ := hb7
          have HbF7 : Hid _ := hbF7
          clear hcall2 hT3 hA3 hX1 hb7 hbF7 hbF6 hb6
          go_wp2_with fail
          generalize w6.alloc (Obj.cells #[.int .i64 k3, .int .i64 m3, .string s3, .int .i64 e3, .slice p3 l3.length cap3] 33) = w7 at *
          refine Calls.mono Hcall2.out ?_
          rintro e8 w8 hp
          obtain ⟨k4, m4, s4, e4, l4, p4, cap4, rfl, hT4, hA4, hb8⟩ := hp.parts
          clear hp Hcall2
          have hz8 := hb8.size
          have hb9 : Below w8.heap.size w8 (w8.alloc (Obj.cells #[.int .i64 k4, .int .i64 m4, .string s4, .int .i64 e4, .slice p4 l4.length cap4] 33)) := (Below.refl _ _).alloc (Nat.le_refl _) _
          have hb79 : Below w7.heap.size w7 (w8.alloc (Obj.cells #[.int .i64 k4, .int .i64 m4, .string s4, .int .i64 e4, .slice p4 l4.length cap4] 33)) := hb8.trans (hb9.mono hb8.size)
          have hb69 : Below w6.heap.size w6 (w8.alloc (Obj.cells #[.int .i64 k4, .int .i64 m4, .string s4, .int .i64 e4, .slice p4 l4.length cap4] 33)) := Below.trans Hb7.out (hb79.mono (Nat.le_of_lt hz7))
          have hX2 := Box.new w8 (.int .i64 k4) (.int .i64 m4) (.string s4) (.int .i64 e4) (.slice p4 l4.length cap4)
          have hX19 := Box.kp (X := []) HX1.out (Kp.of_below hb79) (by simp)
          obtain ⟨u0, u1, u2, u3, u4⟩ := hX19.cells
          obtain ⟨v0, v1, v2, v3, v4⟩ := hX2.cells
          have hty3 := (TyAt.later HA3.out hb69).tyIn
          have hty4 := (hA4.later hb9).tyIn
          have hcall3 := alike_any _ _ _ _ _ hty3 hty4
          have Hcall3 : Hid _ := hcall3
          have HbF9 : Hid (Below wF.heap.size wF (w8.alloc (Obj.cells #[.int .i64 k4, .int .i64 m4, .string s4, .int .i64 e4, .slice p4 l4.length cap4] 33))) := Below.trans HbF7.out (hb79.mono (Below.size HbF7.out))
          have HT4 : Hid _ := hT4
          clear hcall3 hty3 hty4 hb79 hb69 hb9 hb8 hX2 hX19 hT4 hA4 HX1 Hb7 HA3
          go_wp2_with fail
          generalize w8.alloc (Obj.cells #[.int .i64 k4, .int .i64 m4, .string s4, .int .i64 e4, .slice p4 l4.length cap4] 33) = w9 at *
          refine Calls.mono Hcall3.out ?_
          rintro e10 w10 ⟨rfl, hb10⟩
          have HbF10 : Hid (Below wF.heap.size wF w10) := HbF9.out.trans (hb10.mono HbF9.out.size)
          clear Hcall3 u0 u1 u2 u3 u4 v0 v1 v2 v3 v4 hb10
          have hal : (Ty.mk k3 m3 s3 e3 l3).alike (.mk k4 m4 s4 e4 l4) = true := (Ty.alike_iff _ _).2 (by rw [← HT3.out, ← HT4.out]; exact Hbare.out)
          rw [hal]
          clear hal HT3 HT4 Hbare HbF9 HbF7 c0 c1 c2 c3 c4 c5 c6 c7 c8 c9 d5 d6 d7 d8 d9
          go_wp2
          go_roundg (ps.length - (i + 1))
          case measure => omega
          case rel => exact ⟨i + 1, by first | rfl | (congr 1; omega) | go_num, by omega, rfl, HbF10.out⟩
        · have hi' : ¬ (i : Int) < ps.length := by omega
          go_wp2_with fail
          go_meet
          exact HR.out
    · have hk0' : (kind == 0) = false := by simpa using hk0
      clear hk0
      go_wp2_with fail
      go_meet
      exact Below.refl _ _
  case rest =>
    have HC : Hid (Below wF.heap.size wF wc) := hcut
    clear hcut
    go_wp2_with fail
    go_loopg [12] ps.length (fun g iv wr => ∃ (i : Nat), iv = .int .i64 i ∧ i ≤ ps.length ∧ g = ps.length - i ∧ Hid (Below wF.heap.size wF wr) ∧ Hid (∀ j (hj : j < ps.length), j < i → GoodPair Sm (ps[j]'hj)))
    case atStart => exact ⟨0, rfl, by omega, by omega, HC.out, fun j hj h => absurd h (Nat.not_lt_zero _)⟩
    case round =>
      obtain ⟨i, rfl, hi1, rfl, HR, HI⟩ := hrel
      by_cases hi : i < ps.length
      · have hi' : (i : Int) < ps.length := by omega
        obtain ⟨b, o, rfl, hbw, hpc⟩ := HPF.out.get i hi
        have hbr := HR.out
        clear HR HC
        have hbw' := Nat.lt_of_lt_of_le hbw hbr.size
        have HI2 : Hid (GoodPair Sm (ps[i]'hi) → ∀ j (hj : j < ps.length), j < i + 1 → GoodPair Sm (ps[j]'hj)) := fun h j hj hji => by
          by_cases hj2 : j = i
          · subst hj2; exact h
          · exact HI.out j hj (by omega)
        have Harg : Hid (¬ ((ps[i]'hi).1.proper = true ∧ (ps[i]'hi).2.proper = true) → kind = 21) := fun h => Ha.out.arg ⟨_, List.getElem_mem hi, h⟩
        clear HI
        generalize ps[i]'hi = pr at *
        cases hpc with
        | mk k n s e l q cap1 k' n' s' e' l' q' cap' c0 c1 c2 c3 c4 c5 c6 c7 c8 c9 hA hB =>
        have y0 := (hbr.cell (p := ⟨b, o + i * 10, none⟩) hbw).trans c0
        have y1 := (hbr.cell (p := ⟨b, o + i * 10 + 1, none⟩) hbw).trans c1
        have y2 := (hbr.cell (p := ⟨b, o + i * 10 + 2, none⟩) hbw).trans c2
        have y3 := (hbr.cell (p := ⟨b, o + i * 10 + 3, none⟩) hbw).trans c3
        have y4 := (hbr.cell (p := ⟨b, o + i * 10 + 4, none⟩) hbw).trans c4
        have HcallA : Hid _ := proper_any (.mk k n s e l) wr _ (hA.kp (X := []) (Kp.of_below hbr) (by simp))
        go_wp2_with fail
        refine Calls.mono HcallA.out ?_
        rintro e5 w5 ⟨rfl, hb5⟩
        clear HcallA y0 y1 y2 y3 y4
        have hbr5 : Below wF.heap.size wF w5 := hbr.trans (hb5.mono hbr.size)
        clear hbr hb5
        have y5 := (hbr5.cell (p := ⟨b, o + i * 10 + 5, none⟩) hbw).trans c5
        have y6 := (hbr5.cell (p := ⟨b, o + i * 10 + 6, none⟩) hbw).trans c6
        have y7 := (hbr5.cell (p := ⟨b, o + i * 10 + 7, none⟩) hbw).trans c7
        have y8 := (hbr5.cell (p := ⟨b, o + i * 10 + 8, none⟩) hbw).trans c8
        have y9 := (hbr5.cell (p := ⟨b, o + i * 10 + 9, none⟩) hbw).trans c9
        have HcallB : Hid _ := proper_any (.mk k' n' s' e' l') w5 _ (hB.kp (X := []) (Kp.of_below hbr5) (by simp))
        go_wp2_with fail
        refine Calls.mono HcallB.out ?_
        rintro e6 wr2 ⟨rfl, hb6⟩
        clear HcallB y5 y6 y7 y8 y9
        have hbr2 : Below wF.heap.size wF wr2 := hbr5.trans (hb6.mono hbr5.size)
        clear hbr5 hb6 hbw'
        have hbw' := Nat.lt_of_lt_of_le hbw hbr2.size
        obtain ⟨f0, f1, f2, f3⟩ := (FBox.kp (X := []) HFF.out (Kp.of_below hbr2) (by simp)).cells
        rw [← hbr2.cell (p := ⟨b, o + i * 10, none⟩) hbw] at c0
        rw [← hbr2.cell (p := ⟨b, o + i * 10 + 1, none⟩) hbw] at c1
        rw [← hbr2.cell (p := ⟨b, o + i * 10 + 2, none⟩) hbw] at c2
        rw [← hbr2.cell (p := ⟨b, o + i * 10 + 3, none⟩) hbw] at c3
        rw [← hbr2.cell (p := ⟨b, o + i * 10 + 4, none⟩) hbw] at c4
        cases hpA : (Ty.mk k n s e l).proper
        · have hk21 := Harg.out (by rintro ⟨h, _⟩; rw [hpA] at h; cases h)
          have HE : Hid (Below w.heap.size w wr2) := HWF.out.trans (hbr2.mono hwF)
          clear hbr2 hpA Harg c0 c1 c2 c3 c4 c5 c6 c7 c8 c9 hA hB HI2
          subst hk21
          go_wp2_with fail
          go_ret
          exact ⟨rfl, HE.out⟩
        · cases hpB : (Ty.mk k' n' s' e' l').proper
          · have hk21 := Harg.out (by rintro ⟨_, h⟩; rw [hpB] at h; cases h)
            have HE : Hid (Below w.heap.size w wr2) := HWF.out.trans (hbr2.mono hwF)
            clear hbr2 hpA hpB Harg c0 c1 c2 c3 c4 c5 c6 c7 c8 c9 hA hB HI2
            subst hk21
            go_wp2_with fail
            go_ret
            exact ⟨rfl, HE.out⟩
          · clear f0 f1 f2 f3 Harg
            have hcA := ((Ty.proper_iff _).1 hpA).1
            have hcB := ((Ty.proper_iff _).1 hpB).1
            have HI3 : Hid (((Ty.mk k n s e l).put Sm).bare = ((Ty.mk k' n' s' e' l').put Sm).bare → ∀ j (hj : j < ps.length), j < i + 1 → GoodPair Sm (ps[j]'hj)) := fun h => HI2.out ⟨⟨hpA, hpB⟩, h⟩
            clear HI2 hpA hpB
            have hcall1 := put_any wF pS capS Sm HSF.out (.mk k n s e l) wr2 k n s e l q cap1 rfl hA hcA hbr2
            have Hcall1 : Hid _ := hcall1
            clear hcall1
            go_wp2_with fail
            refine Calls.mono Hcall1.out ?_
            rintro e6 w6 hp
            obtain ⟨k3, m3, s3, e3, l3, p3, cap3, rfl, hT3, hA3, hb6⟩ := hp.parts
            clear hp Hcall1
            have hz6 := hb6.size
            have hbF6 : Below wF.heap.size wF w6 := hbr2.trans (hb6.mono hbr2.size)
            have hb7 : Below w6.heap.size w6 (w6.alloc (Obj.cells #[.int .i64 k3, .int .i64 m3, .string s3, .int .i64 e3, .slice p3 l3.length cap3] 33)) := (Below.refl _ _).alloc (Nat.le_refl _) _
            have hbF7 : Below wF.heap.size wF (w6.alloc (Obj.cells #[.int .i64 k3, .int .i64 m3, .string s3, .int .i64 e3, .slice p3 l3.length cap3] 33)) := hbF6.trans (hb7.mono hbF6.size)
            have hX1 := Box.new w6 (.int .i64 k3) (.int .i64 m3) (.string s3) (.int .i64 e3) (.slice p3 l3.length cap3)
            have hz7 : w6.heap.size < (w6.alloc (Obj.cells #[.int .i64 k3, .int .i64 m3, .string s3, .int .i64 e3, .slice p3 l3.length cap3] 33)).heap.size := by simp
            have d5 := (hbF7.cell (p := ⟨b, o + i * 10 + 5, none⟩) hbw).trans c5
            have d6 := (hbF7.cell (p := ⟨b, o + i * 10 + 6, none⟩) hbw).trans c6
            have d7 := (hbF7.cell (p := ⟨b, o + i * 10 + 7, none⟩) hbw).trans c7
            have d8 := (hbF7.cell (p := ⟨b, o + i * 10 + 8, none⟩) hbw).trans c8
            have d9 := (hbF7.cell (p := ⟨b, o + i * 10 + 9, none⟩) hbw).trans c9
            have hcall2 := put_any wF pS capS Sm HSF.out (.mk k' n' s' e' l') _ k' n' s' e' l' q' cap' rfl hB hcB hbF7
            have Hcall2 : Hid _ := hcall2
            have HT3 : Hid _ := hT3
            have HA3 : Hid _ := hA3
            have HX1 : Hid _ := hX1
            have Hb7 : Hid _ := hb7
            have HbF7 : Hid _ := hbF7
            clear hcall2 hT3 hA3 hX1 hb7 hbF7 hbF6 hb6
            go_wp2_with fail
            generalize w6.alloc (Obj.cells #[.int .i64 k3, .int .i64 m3, .string s3, .int .i64 e3, .slice p3 l3.length cap3] 33) = w7 at *
            refine Calls.mono Hcall2.out ?_
            rintro e8 w8 hp
            obtain ⟨k4, m4, s4, e4, l4, p4, cap4, rfl, hT4, hA4, hb8⟩ := hp.parts
            clear hp Hcall2
            have hz8 := hb8.size
            have hb9 : Below w8.heap.size w8 (w8.alloc (Obj.cells #[.int .i64 k4, .int .i64 m4, .string s4, .int .i64 e4, .slice p4 l4.length cap4] 33)) := (Below.refl _ _).alloc (Nat.le_refl _) _
            have hb79 : Below w7.heap.size w7 (w8.alloc (Obj.cells #[.int .i64 k4, .int .i64 m4, .string s4, .int .i64 e4, .slice p4 l4.length cap4] 33)) := hb8.trans (hb9.mono hb8.size)
            have hb69 : Below w6.heap.size w6 (w8.alloc (Obj.cells #[.int .i64 k4, .int .i64 m4, .string s4, .int .i64 e4, .slice p4 l4.length cap4] 33)) := Below.trans Hb7.out (hb79.mono (Nat.le_of_lt hz7))
            have hX2 := Box.new w8 (.int .i64 k4) (.int .i64 m4) (.string s4) (.int .i64 e4) (.slice p4 l4.length cap4)
            have hX19 := Box.kp (X := []) HX1.out (Kp.of_below hb79) (by simp)
            obtain ⟨u0, u1, u2, u3, u4⟩ := hX19.cells
            obtain ⟨v0, v1, v2, v3, v4⟩ := hX2.cells
            have hty3 := (TyAt.later HA3.out hb69).tyIn
            have hty4 := (hA4.later hb9).tyIn
            have hcall3 := alike_any _ _ _ _ _ hty3 hty4
            have Hcall3 : Hid _ := hcall3
            have HbF9 : Hid (Below wF.heap.size wF (w8.alloc (Obj.cells #[.int .i64 k4, .int .i64 m4, .string s4, .int .i64 e4, .slice p4 l4.length cap4] 33))) := Below.trans HbF7.out (hb79.mono (Below.size HbF7.out))
            have HT4 : Hid _ := hT4
            clear hcall3 hty3 hty4 hb79 hb69 hb9 hb8 hX2 hX19 hT4 hA4 HX1 Hb7 HA3
            go_wp2_with fail
            generalize w8.alloc (Obj.cells #[.int .i64 k4, .int .i64 m4, .string s4, .int .i64 e4, .slice p4 l4.length cap4] 33) = w9 at *
            refine Calls.mono Hcall3.out ?_
            rintro e10 w10 ⟨rfl, hb10⟩
            have HbF10 : Hid (Below wF.heap.size wF w10) := HbF9.out.trans (hb10.mono HbF9.out.size)
            clear Hcall3 u0 u1 u2 u3 u4 v0 v1 v2 v3 v4 hb10
            clear HbF9 HbF7 c0 c1 c2 c3 c4 c5 c6 c7 c8 c9 d5 d6 d7 d8 d9
            have HE : Hid (Below w.heap.size w w10) := HWF.out.trans (Below.mono HbF10.out hwF)
            cases hal : (Ty.mk k3 m3 s3 e3 l3).alike (.mk k4 m4 s4 e4 l4)
            · clear hal
              go_wp2_with fail
              go_ret
              exact ⟨rfl, HE.out⟩
            · have HI4 : Hid _ := HI3.out (by rw [HT3.out, HT4.out]; exact (Ty.alike_iff _ _).1 hal)
              clear hal HT3 HT4 HI3
              go_wp2
              go_roundg (ps.length - (i + 1))
              case measure => omega
              case rel => exact ⟨i + 1, by first | rfl | (congr 1; omega) | go_num, by omega, rfl, HbF10.out, HI4.out⟩
      · have hi' : ¬ (i : Int) < ps.length := by omega
        have hall : ∀ p ∈ ps, GoodPair Sm p := by
          intro p hp
          obtain ⟨j, hj, rfl⟩ := List.getElem_of_mem hp
          exact HI.out j hj (by omega)
        have hans := Ha.out.some (fun p hp => (hall p hp).1) Sm (fun p hp => (hall p hp).2)
        have Hans : Hid (kind = 0 → ∀ b ∈ Bs, ((Ty.mk 0 b.1 { data := #[] } 0 []).put Sm).bare = (b.2.put Sm).bare) := hans.2
        have hkk := hans.1
        have hbr := HR.out
        obtain ⟨f0, f1, f2, f3⟩ := (FBox.kp (X := []) HFF.out (Kp.of_below hbr) (by simp)).cells
        have HE : Hid (Below w.heap.size w wr) := HWF.out.trans (hbr.mono hwF)
        clear hall hans HI hbr HC
        rcases hkk with hkk | hkk | hkk
        · have Hs : Hid _ := Hans.out hkk
          clear Hans
          subst hkk
          go_wp2_with fail
          clear f0 f1 f2 f3 HE
          go_loopg [18] Bs.length (fun g iv wr => ∃ (i : Nat), iv = .int .i64 i ∧ i ≤ Bs.length ∧ g = Bs.length - i ∧ Hid (Below wF.heap.size wF wr))
          case atStart => exact ⟨0, rfl, by omega, by omega, HR.out⟩
          case round =>
            clear hi hi' hi1 HR
            obtain ⟨i, rfl, hi1, rfl, HR⟩ := hrel
            by_cases hi : i < Bs.length
            · have hi' : (i : Int) < Bs.length := by omega
              obtain ⟨b, o, rfl, hbw, hpc⟩ := HBF.out.get i hi
              have hbr := HR.out
              clear HR
              have hbw' := Nat.lt_of_lt_of_le hbw hbr.size
              have hbare := Hs.out _ (List.getElem_mem hi)
              have hcB := Hc.out _ (List.getElem_mem hi)
              have hxw := Hw.out _ (List.getElem_mem hi)
              generalize Bs[i]'hi = pr at *
              cases hpc with
              | mk x k n s e l q cap1 c0 c1 c2 c3 c4 c5 hT =>
              rw [← hbr.cell (p := ⟨b, o + i * 6, none⟩) hbw] at c0
              have hcA : (Ty.mk 0 x { data := #[] } 0 []).count ≤ 400 := by unfold Ty.count Ty.countL; omega
              have Hbare : Hid (((Ty.mk 0 x { data := #[] } 0 []).put Sm).bare = ((Ty.mk k n s e l).put Sm).bare) := hbare
              have hTv := var_tyIn wF hxw
              clear hbare hxw
              have hcall1 := put_any wF pS capS Sm HSF.out (.mk 0 x { data := #[] } 0 []) wr 0 x { data := #[] } 0 [] none 0 rfl hTv hcA hbr
              have Hcall1 : Hid _ := hcall1
              clear hcall1
              go_wp2_with fail
              refine Calls.mono Hcall1.out ?_
              rintro e6 w6 hp
              obtain ⟨k3, m3, s3, e3, l3, p3, cap3, rfl, hT3, hA3, hb6⟩ := hp.parts
              clear hp Hcall1
              have hz6 := hb6.size
              have hbF6 : Below wF.heap.size wF w6 := hbr.trans (hb6.mono hbr.size)
              have hb7 : Below w6.heap.size w6 (w6.alloc (Obj.cells #[.int .i64 k3, .int .i64 m3, .string s3, .int .i64 e3, .slice p3 l3.length cap3] 33)) := (Below.refl _ _).alloc (Nat.le_refl _) _
              have hbF7 : Below wF.heap.size wF (w6.alloc (Obj.cells #[.int .i64 k3, .int .i64 m3, .string s3, .int .i64 e3, .slice p3 l3.length cap3] 33)) := hbF6.trans (hb7.mono hbF6.size)
              have hX1 := Box.new w6 (.int .i64 k3) (.int .i64 m3) (.string s3) (.int .i64 e3) (.slice p3 l3.length cap3)
              have hz7 : w6.heap.size < (w6.alloc (Obj.cells #[.int .i64 k3, .int .i64 m3, .string s3, .int .i64 e3, .slice p3 l3.length cap3] 33)).heap.size := by simp
              have d1 := (hbF7.cell (p := ⟨b, o + i * 6 + 1, none⟩) hbw).trans c1
              have d2 := (hbF7.cell (p := ⟨b, o + i * 6 + 2, none⟩) hbw).trans c2
              have d3 := (hbF7.cell (p := ⟨b, o + i * 6 + 3, none⟩) hbw).trans c3
              have d4 := (hbF7.cell (p := ⟨b, o + i * 6 + 4, none⟩) hbw).trans c4
              have d5 := (hbF7.cell (p := ⟨b, o + i * 6 + 5, none⟩) hbw).trans c5
              have hcall2 := put_any wF pS capS Sm HSF.out (.mk k n s e l) _ k n s e l q cap1 rfl hT hcB hbF7
              have Hcall2 : Hid _ := hcall2
              have HT3 : Hid _ := hT3
              have HA3 : Hid _ := hA3
              have HX1 : Hid _ := hX1
              have Hb7 : Hid _ := hb7
              have HbF7 : Hid _ := hbF7
              clear hcall2 hT3 hA3 hX1 hb7 hbF7 hbF6 hb6
              go_wp2_with fail
              generalize w6.alloc (Obj.cells #[.int .i64 k3, .int .i64 m3, .string s3, .int .i64 e3, .slice p3 l3.length cap3] 33) = w7 at *
              refine Calls.mono Hcall2.out ?_
              rintro e8 w8 hp
              obtain ⟨k4, m4, s4, e4, l4, p4, cap4, rfl, hT4, hA4, hb8⟩ := hp.parts
              clear hp Hcall2
              have hz8 := hb8.size
              have hb9 : Below w8.heap.size w8 (w8.alloc (Obj.cells #[.int .i64 k4, .int .i64 m4, .string s4, .int .i64 e4, .slice p4 l4.length cap4] 33)) := (Below.refl _ _).alloc (Nat.le_refl _) _
              have hb79 : Below w7.heap.size w7 (w8.alloc (Obj.cells #[.int .i64 k4, .int .i64 m4, .string s4, .int .i64 e4, .slice p4 l4.length cap4] 33)) := hb8.trans (hb9.mono hb8.size)
              have hb69 : Below w6.heap.size w6 (w8.alloc (Obj.cells #[.int .i64 k4, .int .i64 m4, .string s4, .int .i64 e4, .slice p4 l4.length cap4] 33)) := Below.trans Hb7.out (hb79.mono (Nat.le_of_lt hz7))
              have hX2 := Box.new w8 (.int .i64 k4) (.int .i64 m4) (.string s4) (.int .i64 e4) (.slice p4 l4.length cap4)
              have hX19 := Box.kp (X := []) HX1.out (Kp.of_below hb79) (by simp)
              obtain ⟨u0, u1, u2, u3, u4⟩ := hX19.cells
              obtain ⟨v0, v1, v2, v3, v4⟩ := hX2.cells
              have hty3 := (TyAt.later HA3.out hb69).tyIn
              have hty4 := (hA4.later hb9).tyIn
              have hcall3 := alike_any _ _ _ _ _ hty3 hty4
              have Hcall3 : Hid _ := hcall3
              have HbF9 : Hid (Below wF.heap.size wF (w8.alloc (Obj.cells #[.int .i64 k4, .int .i64 m4, .string s4, .int .i64 e4, .slice p4 l4.length cap4] 33))) := Below.trans HbF7.out (hb79.mono (Below.size HbF7.out))
              have HT4 : Hid _ := hT4
              clear hcall3 hty3 hty4 hb79 hb69 hb9 hb8 hX2 hX19 hT4 hA4 HX1 Hb7 HA3
              go_wp2_with fail
              generalize w8.alloc (Obj.cells #[.int .i64 k4, .int .i64 m4, .string s4, .int .i64 e4, .slice p4 l4.length cap4] 33) = w9 at *
              refine Calls.mono Hcall3.out ?_
              rintro e10 w10 ⟨rfl, hb10⟩
              have HbF10 : Hid (Below wF.heap.size wF w10) := HbF9.out.trans (hb10.mono HbF9.out.size)
              clear Hcall3 u0 u1 u2 u3 u4 v0 v1 v2 v3 v4 hb10
              have hal : (Ty.mk k3 m3 s3 e3 l3).alike (.mk k4 m4 s4 e4 l4) = true := (Ty.alike_iff _ _).2 (by rw [← HT3.out, ← HT4.out]; exact Hbare.out)
              rw [hal]
              clear hal HT3 HT4 Hbare HbF9 HbF7 c0 c1 c2 c3 c4 c5 d1 d2 d3 d4 d5
              go_wp2
              go_roundg (Bs.length - (i + 1))
              case measure => omega
              case rel => exact ⟨i + 1, by first | rfl | (congr 1; omega) | go_num, by omega, rfl, HbF10.out⟩
            · have hi' : ¬ (i : Int) < Bs.length := by omega
              have HE : Hid (Below w.heap.size w wr) := HWF.out.trans (Below.mono HR.out hwF)
              go_wp2_with fail
              go_ret
              exact ⟨rfl, HE.out⟩
        · clear Hans HR
          subst hkk
          go_wp2_with fail
          go_ret
          exact ⟨rfl, HE.out⟩
        · clear Hans HR
          subst hkk
          go_wp2_with fail
          go_ret
          exact ⟨rfl, HE.out⟩
end Go.Proofs.Ytbgpjaniohpfaaa
