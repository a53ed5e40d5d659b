/-
  The program's Check: one instruction gone through (step): up to how many values there are then.
-/
import Derived.Test.YtlekoldicnfeeaaDoorK1
import Derived.Test.YtlekoldicnfeeaaDoorE6
import Derived.Test.YtlekoldicnfeeaaDoorReg
namespace Go.Proofs.YtlekoldicnfeeaaDoor
open Go.RowKit Go.Deep
theorem IBox.kp {X : List Nat} {w w' : World} {b : Nat} {x : In} (h : IBox w b x) (hk : Kp X w w') (hx : b ∉ X) : IBox w' b x := (hk.block b (Array.getElem?_eq_some_iff.1 h).1 hx).trans h
/-- What one instruction does to what is known. -/
def stepJ (x : In) (i : Nat) (L : List Sn) (s : Sn) : Bool × List Sn :=
  if x.op = 17 ∨ x.op = 16 then (decide (s.vals = 0) && decide (s.tries = 0), L)
  else if x.op = 22 then (true, L)
  else if x.op = 18 then reachP L x.a.toNat s
  else if x.op = 19 then (if (reachP L x.a.toNat s).1 = true then reachP (reachP L x.a.toNat s).2 (i + 1) s else (false, (reachP L x.a.toNat s).2))
  else if x.op = 20 then (if (reachP L x.a.toNat ⟨s.is, s.vals + 1, s.tries⟩).1 = true then reachP (reachP L x.a.toNat ⟨s.is, s.vals + 1, s.tries⟩).2 (i + 1) ⟨s.is, s.vals, s.tries + 1⟩ else (false, (reachP L x.a.toNat ⟨s.is, s.vals + 1, s.tries⟩).2))
  else if x.op = 21 then (if 0 ≤ s.tries - 1 then reachP L (i + 1) ⟨s.is, s.vals, s.tries - 1⟩ else (false, L))
  else reachP L (i + 1) s
def stepP (fs : List Fn) (x : In) (i : Nat) (L : List Sn) : Bool × List Sn :=
  if ((L[i]?).getD default).is = true ∧ takesP fs x ≤ ((L[i]?).getD default).vals then stepJ x i L ⟨true, ((L[i]?).getD default).vals + (putsP x - takesP fs x), ((L[i]?).getD default).tries⟩ else (false, L)
/-- What the walk of step has in memory: the instruction, the flow, what is known, one's own of it. -/
structure Stp (w0 : World) (fp : Nat) (p : Option Addr) (nt cap : Nat) (p' : Option Addr) (nf cap' b n nc : Nat) (L : List Sn) (ib : Nat) (x : In) (nb : Nat) (s : Sn) (wx : World) : Prop where
  flow : WBox wx fp p nt cap p' nf cap' b n nc
  known : KBox wx b L
  ins : IBox wx ib x
  own : MBox wx nb s
  apart : w0.heap.size ≤ nb
  kept : Kp [] w0 wx
theorem reach_len (L : List Sn) (j : Nat) (s : Sn) : (reachP L j s).2.length = L.length := by
  unfold reachP
  split
  · rfl
  · split <;> simp
theorem Stp.of {w0 wx : World} {fp : Nat} {p : Option Addr} {nt cap : Nat} {p' : Option Addr} {nf cap' b n nc : Nat} {L : List Sn} {ib : Nat} {x : In} {nb : Nat} {s : Sn} (h1 : WBox w0 fp p nt cap p' nf cap' b n nc) (h2 : KBox w0 b L) (h3 : IBox w0 ib x) (hk : Kp [] w0 wx) (h4 : MBox wx nb s) (h5 : w0.heap.size ≤ nb) : Stp w0 fp p nt cap p' nf cap' b n nc L ib x nb s wx :=
  ⟨h1.kp hk (by simp), h2.kp hk (by simp), h3.kp hk (by simp), h4, h5, hk⟩
section
set_option maxHeartbeats 8000000
set_option maxRecDepth 100000
theorem step_any (wb w : World) (fp : Nat) (p : Option Addr) (nt cap : Nat) (p' : Option Addr) (cap' : Nat) (b nc : Nat) (fs : List Fn) (f : Fn) (main : Bool) (k : Nat) (hk : k < 26) (a c : Int) (L : List Sn) (i : Nat) (hi : i + 1 < L.length) (hx : In.ok ⟨k, a, c⟩ = true) (ho : operandsP nt fs.length f ⟨k, a, c⟩ main = 0) (hfl : f.ins.length < L.length) (hLn : L.length ≤ 65536) (hfs : ∀ g ∈ fs, g.ok = true)
    (hW : WBox w fp p nt cap p' fs.length cap' b L.length nc) (hK : KBox w b L) (hF : FunsIn wb p' fs) (hS : ShIn wb) (hG : SgIn wb) (hB : Below wb.heap.size wb w) (hL : LOk L i) :
    Calls Tryd.prog 65 #[.pointer (some ⟨fp, 0, none⟩), .int .i64 i, .agg #[.int .i64 k, .int .i64 a, .int .i64 c]] w fun e w' => e = .returned (.bool (stepP fs ⟨k, a, c⟩ i L).1) ∧ KBox w' b (stepP fs ⟨k, a, c⟩ i L).2 ∧ Kp [b] w w' := by
  have hkx : Kp [] w (w.alloc (.cells #[.int .i64 k, .int .i64 a, .int .i64 c] 47)) := Kp.alloc [] _ _
  have hW0 := hW.kp hkx (by simp)
  have hK0 := hK.kp hkx (by simp)
  have hI0 : IBox (w.alloc (.cells #[.int .i64 k, .int .i64 a, .int .i64 c] 47)) w.heap.size ⟨k, a, c⟩ := (MapKept.heap_alloc w _).1
  have hB0 : Below wb.heap.size wb (w.alloc (.cells #[.int .i64 k, .int .i64 a, .int .i64 c] 47)) := hB.alloc hB.size _
  obtain ⟨tr1, tr2⟩ := takes_range ho hx hfs
  have pr := puts_range ⟨k, a, c⟩
  have e0 : (L[i]?).getD default = L[i]'(by omega) := by simp [show i < L.length by omega]
  obtain ⟨q1, q2, q3, q4⟩ := hL (L[i]'(by omega)) (List.getElem_mem _)
  obtain ⟨R, hR⟩ : ∃ R, R = stepP fs ⟨k, a, c⟩ i L := ⟨_, rfl⟩
  rw [← hR]
  unfold stepP at hR
  rw [e0] at hR
  have Htk : Hid (∀ wx, Kp [] (w.alloc (.cells #[.int .i64 k, .int .i64 a, .int .i64 c] 47)) wx → Calls Tryd.prog 69 #[.agg #[.slice p nt cap, .slice p' fs.length cap'], .agg #[.int .i64 k, .int .i64 a, .int .i64 c]] wx fun e w' => e = .returned (.int .i64 (takesP fs ⟨k, a, c⟩)) ∧ Below wx.heap.size wx w') := fun wx hwx => by
    have hBx : Below wb.heap.size wb wx := hB0.trans (hwx.below hB0.size (by simp))
    exact takesC_any wx p nt cap p' cap' fs f main k hk a c hx ho (hF.below hBx) (hS.below hBx) (hG.below hBx)
  have hjump : k = 18 ∨ k = 19 ∨ k = 20 → 0 ≤ a ∧ a < L.length := fun h => by
    have h1 := oper_jump ho (by simp only; omega)
    have h2 := two_range (In.ok_one hx (by rcases h with rfl | rfl | rfl <;> rfl))
    simp only at h1 h2
    omega
  generalize hxx : (L[i]'(by omega)) = s at *
  obtain ⟨si, sv, st⟩ := s
  simp only at q1 q2 q3 q4 hR
  have HRc : Hid (∀ (L' : List Sn) (j : Nat) (s : Sn) (wx : World), L'.length = L.length → j < L.length → WBox wx fp p nt cap p' fs.length cap' b L.length nc → KBox wx b L' → Calls Tryd.prog 70 #[.pointer (some ⟨fp, 0, none⟩), .int .i64 j, .agg #[.bool s.is, .int .i64 s.vals, .int .i64 s.tries]] wx fun e w' => e = .returned (.bool (reachP L' j s).1) ∧ KBox w' b (reachP L' j s).2 ∧ Kp [b] wx w') := fun L' j s wx hl hj h1 h2 => by
    rw [← hl] at h1
    exact reach_any wx fp p nt cap p' fs.length cap' b nc L' j (by omega) s h1 h2 (by omega)
  have hK2 : Hid (∀ wx, KBox wx b L → wx.cell? ⟨b, i * 3, none⟩ = some (.bool si) ∧ wx.cell? ⟨b, i * 3 + 1, none⟩ = some (.int .i64 sv) ∧ wx.cell? ⟨b, i * 3 + 2, none⟩ = some (.int .i64 st)) := fun wx hwx => by
    obtain ⟨u0, u1, u2, _⟩ := hwx.cells i (by omega)
    rw [hxx] at u0 u1 u2
    exact ⟨u0, u1, u2⟩
  have HR : Hid _ := hR
  have HW0 : Hid (WBox _ fp p nt cap p' fs.length cap' b L.length nc) := hW0
  have HK0 : Hid (KBox _ b L) := hK0
  have HI0 : Hid (IBox _ _ _) := hI0
  have HB0 : Hid (Below _ _ _) := hB0
  have HkX : Hid (Kp [] w _) := hkx
  have HS : Hid (ShIn wb) := hS
  have Hj : Hid (k = 18 ∨ k = 19 ∨ k = 20 → 0 ≤ a ∧ a < L.length) := hjump
  have hne := hW.ne hK
  have Hne : Hid (fp ≠ b) := hne
  have Hsz : Hid (b < w.heap.size ∧ fp < w.heap.size) := ⟨hK.lt, hW.lt⟩
  clear hkx hW0 hK0 hI0 hB0 hR hW hK hF hS hG hB hfs hL e0 hxx ho hx hfl hjump hne
  generalize takesP fs ⟨k, a, c⟩ = tk at *
  have ep := put_table k hk a c
  rw [ep] at pr HR
  clear ep
  go_enter Tryd.func65, Tryd.ntmps65
  go_upto_region 1 with fail
  generalize w.alloc (.cells #[.int .i64 k, .int .i64 a, .int .i64 c] 47) = w0 at *
  have hi' : (i : Int) < L.length := by omega
  have Hcc : Hid (∀ wx, Kp [] w0 wx → (wx.cell? ⟨fp, 2, none⟩ = some (.slice (some ⟨b, 0, none⟩) L.length nc) ∧ fp < wx.heap.size ∧ wx.cell? ⟨fp, 0, none⟩ = some (.slice p nt cap) ∧ wx.cell? ⟨fp, 1, none⟩ = some (.slice p' fs.length cap')) ∧ (wx.cell? ⟨b, i * 3, none⟩ = some (.bool si) ∧ wx.cell? ⟨b, i * 3 + 1, none⟩ = some (.int .i64 sv) ∧ wx.cell? ⟨b, i * 3 + 2, none⟩ = some (.int .i64 st) ∧ b < wx.heap.size) ∧ (wx.cell? ⟨w.heap.size, 0, none⟩ = some (.int .i64 k) ∧ wx.cell? ⟨w.heap.size, 1, none⟩ = some (.int .i64 a) ∧ wx.cell? ⟨w.heap.size, 2, none⟩ = some (.int .i64 c) ∧ w.heap.size < wx.heap.size)) := fun wx hwx => by
    have h1 := WBox.kp HW0.out hwx (by simp)
    have h2 := KBox.kp HK0.out hwx (by simp)
    have h3 := IBox.kp HI0.out hwx (by simp)
    obtain ⟨u0, u1, u2⟩ := hK2.out wx h2
    exact ⟨⟨h1.cells.2.2.1, h1.cells.2.2.2, h1.cells.1, h1.cells.2.1⟩, ⟨u0, u1, u2, h2.lt⟩, h3.cells⟩
  go_cut [7, 8] from 10 to 22 (fun sv' tv wx => Hid (∃ nb, sv' = .pointer (some ⟨nb, 0, none⟩) ∧ tv = .int .i64 tk ∧ Stp w0 fp p nt cap p' fs.length cap' b L.length nc L w.heap.size ⟨k, a, c⟩ nb ⟨si, sv, st⟩ wx))
  case first =>
    refine region_any (C := fun wx => Kp [] w0 wx) (by kernel_rfl) ?_
    refine anyIn_read (i := 0) rfl (by kernel_rfl) (by kernel_rfl) (by kernel_rfl) (fun _ _ _ _ h => h) ?_
    apply Exists.intro
    refine ⟨Or.inl ⟨by rfl, fun wx hwx => ?_⟩, ?_⟩
    (obtain ⟨⟨f0, f1, f10, f11⟩, ⟨f2, f3, f4, f5⟩, f6, f7, f8, f9⟩ := Hcc.out wx hwx; go_simp; first | done | with_reducible rfl)
    refine anyIn_read (i := 1) rfl (by kernel_rfl) (by kernel_rfl) (by kernel_rfl) (fun _ _ _ _ h => h) ?_
    apply Exists.intro
    refine ⟨Or.inl ⟨by rfl, fun wx hwx => ?_⟩, ?_⟩
    (obtain ⟨⟨f0, f1, f10, f11⟩, ⟨f2, f3, f4, f5⟩, f6, f7, f8, f9⟩ := Hcc.out wx hwx; go_simp; first | done | with_reducible rfl)
    refine anyIn_read (i := 2) rfl (by kernel_rfl) (by kernel_rfl) (by kernel_rfl) (fun _ _ _ _ h => h) ?_
    apply Exists.intro
    refine ⟨Or.inl ⟨by rfl, fun wx hwx => ?_⟩, ?_⟩
    (obtain ⟨⟨f0, f1, f10, f11⟩, ⟨f2, f3, f4, f5⟩, f6, f7, f8, f9⟩ := Hcc.out wx hwx; go_simp; first | done | with_reducible rfl)
    refine anyIn_read (i := 3) rfl (by kernel_rfl) (by kernel_rfl) (by kernel_rfl) (fun _ _ _ _ h => h) ?_
    apply Exists.intro
    refine ⟨Or.inl ⟨by rfl, fun wx hwx => ?_⟩, ?_⟩
    (obtain ⟨⟨f0, f1, f10, f11⟩, ⟨f2, f3, f4, f5⟩, f6, f7, f8, f9⟩ := Hcc.out wx hwx; go_simp; first | done | with_reducible rfl)
    refine anyIn_read (i := 4) rfl (by kernel_rfl) (by kernel_rfl) (by kernel_rfl) (fun _ _ _ _ h => h) ?_
    apply Exists.intro
    refine ⟨Or.inl ⟨by rfl, fun wx hwx => ?_⟩, ?_⟩
    (obtain ⟨⟨f0, f1, f10, f11⟩, ⟨f2, f3, f4, f5⟩, f6, f7, f8, f9⟩ := Hcc.out wx hwx; go_simp; first | done | with_reducible rfl)
    refine anyIn_read (i := 5) rfl (by kernel_rfl) (by kernel_rfl) (by kernel_rfl) (fun _ _ _ _ h => h) ?_
    apply Exists.intro
    refine ⟨Or.inl ⟨by rfl, fun wx hwx => ?_⟩, ?_⟩
    (obtain ⟨⟨f0, f1, f10, f11⟩, ⟨f2, f3, f4, f5⟩, f6, f7, f8, f9⟩ := Hcc.out wx hwx; go_simp; first | done | with_reducible rfl)
    refine anyIn_read (i := 6) rfl (by kernel_rfl) (by kernel_rfl) (by kernel_rfl) (fun _ _ _ _ h => h) ?_
    apply Exists.intro
    refine ⟨Or.inl ⟨by rfl, fun wx hwx => ?_⟩, ?_⟩
    (obtain ⟨⟨f0, f1, f10, f11⟩, ⟨f2, f3, f4, f5⟩, f6, f7, f8, f9⟩ := Hcc.out wx hwx; go_simp; first | done | with_reducible rfl)
    refine anyIn_read (i := 7) rfl (by kernel_rfl) (by kernel_rfl) (by kernel_rfl) (fun _ _ _ _ h => h) ?_
    apply Exists.intro
    refine ⟨Or.inl ⟨by rfl, fun wx hwx => ?_⟩, ?_⟩
    (obtain ⟨⟨f0, f1, f10, f11⟩, ⟨f2, f3, f4, f5⟩, f6, f7, f8, f9⟩ := Hcc.out wx hwx; go_simp; first | done | with_reducible rfl)
    refine anyIn_read (i := 8) rfl (by kernel_rfl) (by kernel_rfl) (by kernel_rfl) (fun _ _ _ _ h => h) ?_
    apply Exists.intro
    refine ⟨Or.inl ⟨by rfl, fun wx hwx => ?_⟩, ?_⟩
    (obtain ⟨⟨f0, f1, f10, f11⟩, ⟨f2, f3, f4, f5⟩, f6, f7, f8, f9⟩ := Hcc.out wx hwx; go_simp; first | done | with_reducible rfl)
    refine anyIn_read (i := 9) rfl (by kernel_rfl) (by kernel_rfl) (by kernel_rfl) (fun _ _ _ _ h => h) ?_
    apply Exists.intro
    refine ⟨Or.inl ⟨by rfl, fun wx hwx => ?_⟩, ?_⟩
    (obtain ⟨⟨f0, f1, f10, f11⟩, ⟨f2, f3, f4, f5⟩, f6, f7, f8, f9⟩ := Hcc.out wx hwx; go_simp; first | done | with_reducible rfl)
    refine anyIn_read (i := 10) rfl (by kernel_rfl) (by kernel_rfl) (by kernel_rfl) (fun _ _ _ _ h => h) ?_
    apply Exists.intro
    refine ⟨Or.inl ⟨by rfl, fun wx hwx => ?_⟩, ?_⟩
    (obtain ⟨⟨f0, f1, f10, f11⟩, ⟨f2, f3, f4, f5⟩, f6, f7, f8, f9⟩ := Hcc.out wx hwx; go_simp; first | done | with_reducible rfl)
    refine anyIn_read (i := 11) rfl (by kernel_rfl) (by kernel_rfl) (by kernel_rfl) (fun _ _ _ _ h => h) ?_
    apply Exists.intro
    refine ⟨Or.inl ⟨by rfl, fun wx hwx => ?_⟩, ?_⟩
    (obtain ⟨⟨f0, f1, f10, f11⟩, ⟨f2, f3, f4, f5⟩, f6, f7, f8, f9⟩ := Hcc.out wx hwx; go_simp; first | done | with_reducible rfl)
    have hCd : Kp [] w0 w0.drew := (Kp.refl _ _).drew
    refine anyIn_two (i := 12) (j := 13) hCd rfl rfl (by kernel_rfl) (fun K hK => ?_) (fun K hK => ?_)
    · go_simp
      refine Calls.mono (Htk.out _ hCd) ?_
      rintro e9 w4 ⟨rfl, hb4⟩
      refine hK _ _ ?_
      clear hK K
      have hC4 : Kp [] w0 w4 := hCd.trans (Kp.of_below hb4)
      refine anyIn_one (i := 13) hC4 rfl (by kernel_rfl) (fun K hK => ?_)
      go_simp
      refine hK _ _ ?_
      clear hK K
      refine anyIn_one (i := 14) (hC4.trans (Kp.alloc _ _ _)) rfl (by kernel_rfl) (fun K hK => ?_)
      go_simp
      refine hK _ _ ?_
      clear hK K
      refine anyIn_one (i := 15) (hC4.trans (Kp.alloc _ _ _)) rfl (by kernel_rfl) (fun K hK => ?_)
      go_simp
      refine hK _ _ ?_
      clear hK K
      refine anyIn_done (hC4.trans (Kp.alloc _ _ _)) (by kernel_rfl) ?_
      go_wp2_with fail
      go_meet
      exact ⟨w4.heap.size, rfl, rfl, Stp.of HW0.out HK0.out HI0.out (hC4.trans (Kp.alloc _ _ _)) (MapKept.heap_alloc w4 _).1 hC4.size⟩
    · go_simp
      refine hK _ _ ?_
      clear hK K
      have hC4 : Kp [] w0 (w0.alloc (Obj.cells #[Value.bool false, Value.int IntKind.i64 0, Value.int IntKind.i64 0] 153)).drew := (Kp.alloc _ _ _).drew
      refine anyIn_one (i := 12) hC4 rfl (by kernel_rfl) (fun K hK => ?_)
      go_simp
      refine Calls.mono (Htk.out _ hC4) ?_
      rintro e9 w4 ⟨rfl, hb4⟩
      refine hK _ _ ?_
      clear hK K
      have hC5 : Kp [] w0 w4 := hC4.trans (Kp.of_below hb4)
      have hnx : MBox w4 w0.heap.size ⟨false, 0, 0⟩ := (hb4.block _ (by simp)).trans (MapKept.heap_alloc w0 _).1
      obtain ⟨g0, g1, g2, gf⟩ := MBox.cells hnx
      have g3 := gf 0
      have g4 := gf 1
      have g5 := gf 2
      have g6 := MBox.lt hnx
      have Hnx : Hid (MBox w4 w0.heap.size ⟨false, 0, 0⟩) := hnx
      clear hnx gf
      refine anyIn_one (i := 14) hC5 rfl (by kernel_rfl) (fun K hK => ?_)
      go_simp
      refine hK _ _ ?_
      clear hK K
      have hk6 : Kp [w0.heap.size] w4 (((w4.setCell ⟨w0.heap.size, 0, none⟩ (.bool si)).setCell ⟨w0.heap.size, 1, none⟩ (.int .i64 sv)).setCell ⟨w0.heap.size, 2, none⟩ (.int .i64 st)) := ((Kp.setCell w4 ⟨w0.heap.size, 0, none⟩ (by simp) _).trans (Kp.setCell _ ⟨w0.heap.size, 1, none⟩ (by simp) _)).trans (Kp.setCell _ ⟨w0.heap.size, 2, none⟩ (by simp) _)
      have hC6 : Kp [] w0 (((w4.setCell ⟨w0.heap.size, 0, none⟩ (.bool si)).setCell ⟨w0.heap.size, 1, none⟩ (.int .i64 sv)).setCell ⟨w0.heap.size, 2, none⟩ (.int .i64 st)) := hC5.then hk6 (by simp)
      have hN6 := MBox.set3 Hnx.out ⟨si, sv, st⟩
      simp only at hN6
      refine anyIn_one (i := 15) hC6 rfl (by kernel_rfl) (fun K hK => ?_)
      go_simp
      refine hK _ _ ?_
      clear hK K
      refine anyIn_done hC6 (by kernel_rfl) ?_
      go_wp2_with fail
      go_meet
      exact ⟨w0.heap.size, rfl, rfl, Stp.of HW0.out HK0.out HI0.out hC6 hN6 (Nat.le_refl _)⟩
  case rest =>
    obtain ⟨nb, rfl, rfl, hstp⟩ := hcut.out
    clear hcut Hcc Htk
    obtain ⟨m0, m1, m2, mf⟩ := hstp.own.cells
    have m3 := hstp.own.lt
    have Hst : Hid _ := hstp
    have HKw : Hid (Kp [] w wc) := Kp.trans HkX.out hstp.kept
    clear hstp
    by_cases hgo : ¬ (si = true ∧ tk ≤ sv)
    · have hR : R = (false, L) := by rw [HR.out, if_neg hgo]
      subst hR
      clear HR
      cases si with
      | false =>
        go_wp2
        go_ret
        exact ⟨rfl, Hst.out.known, Kp.mono HKw.out (by simp)⟩
      | true =>
        have hgo2 : sv < tk := by
          have : ¬ tk ≤ sv := fun h => hgo ⟨rfl, h⟩
          omega
        clear hgo
        go_wp2
        go_ret
        exact ⟨rfl, Hst.out.known, Kp.mono HKw.out (by simp)⟩
    · obtain ⟨rfl, hgo2⟩ := Decidable.not_not.1 hgo
      have hgo3 : ¬ sv < tk := by omega
      clear hgo
      rw [if_pos ⟨rfl, hgo2⟩] at HR
      have hS0 := ShIn.below HS.out (Below.trans HB0.out (Kp.below Hst.out.kept (Below.size HB0.out) (by simp)))
      obtain ⟨-, -, c2⟩ := hS0.cells k hk
      obtain ⟨y0, y1, y2, y3⟩ := Hst.out.ins.cells
      simp only at y0 y1 y2
      have hk' : (k : Int) < 26 := by omega
      have mf1 := mf 1
      clear mf hS0
      have hstp5 : Hid (∀ v, Stp w0 fp p nt cap p' fs.length cap' b L.length nc L w.heap.size ⟨k, a, c⟩ nb ⟨true, v, st⟩ (wc.setCell ⟨nb, 1, none⟩ (.int .i64 v)).drew) := fun v => by
        have hs := Hst.out
        have hkk : Kp [nb] wc (wc.setCell ⟨nb, 1, none⟩ (.int .i64 v)).drew := (Kp.setCell wc ⟨nb, 1, none⟩ (by simp) _).drew
        exact Stp.of HW0.out HK0.out HI0.out (hs.kept.then hkk (by intro y hy; right; simp only [List.mem_singleton] at hy; rw [hy]; exact hs.apart)) (MBox.kp (hs.own.setV v) ((Kp.refl [] _).drew) (by simp)) hs.apart
      obtain ⟨nv, hnv⟩ : ∃ nv, nv = sv + (putOf k - tk) := ⟨_, rfl⟩
      have nv1 : 0 ≤ nv := by omega
      have nv2 : nv ≤ 5001 := by omega
      have Hnv : Hid _ := hnv
      rw [← hnv] at HR
      clear hnv
      go_upto_region 4 with fail
      go_cut [] from 32 to 42 (fun wx => Hid (Stp w0 fp p nt cap p' fs.length cap' b L.length nc L w.heap.size ⟨k, a, c⟩ nb ⟨true, nv, st⟩ wx))
      case first =>
        go_region
        all_goals go_wp2_with fail
        all_goals go_meet
        all_goals (rw [Hnv.out]; exact hstp5.out _)
      case rest =>
        have hstp := hcut.out
        clear hcut hstp5 m0 m1 m2 m3 mf1 c2 y0 y1 y2 y3 hgo2 hgo3 Hnv Hst HKw
        rename World => w5
        obtain ⟨m0, m1, m2, mf⟩ := hstp.own.cells
        have m3 := hstp.own.lt
        simp only at m0 m1 m2
        obtain ⟨y0, y1, y2, y3⟩ := hstp.ins.cells
        simp only at y0 y1 y2
        have Hst : Hid (Stp w0 fp p nt cap p' fs.length cap' b L.length nc L w.heap.size ⟨k, a, c⟩ nb ⟨true, nv, st⟩ w5) := hstp
        have HKw : Hid (Kp [] w w5) := Kp.trans HkX.out hstp.kept
        have Hnb : Hid (nb ≠ b ∧ w.heap.size ≠ b ∧ w.heap.size ≠ nb) := by
          have h1 := Hsz.out
          have h2 := hstp.apart
          have h3 := Kp.size HkX.out
          have h4 := (IBox.cells HI0.out).2.2.2
          exact ⟨by omega, by omega, by omega⟩
        clear hstp
        have e1 : ((i + 1 : Nat) : Int) = (i : Int) + 1 := by omega
        have E1 : Hid _ := e1
        have hin : (i : Int) + 1 < L.length := by omega
        clear e1
        by_cases h17 : k = 17
        · have hR : R = (decide (nv = 0) && decide (st = 0), L) := by
            rw [HR.out]
            unfold stepJ
            rw [if_pos (by simp only; omega)]
          have b17 : ((k : Int) == 17) = true := by simp; omega
          clear HR h17
          by_cases z1 : nv = 0
          · by_cases z2 : st = 0
            · have hR2 : R = (true, L) := by rw [hR, z1, z2]; rfl
              subst hR2
              clear hR
              subst z1
              subst z2
              go_wp2
              go_ret
              exact ⟨rfl, Hst.out.known, Kp.mono HKw.out (by simp)⟩
            · have z2b : (st == 0) = false := by simpa using z2
              have hR2 : R = (false, L) := by rw [hR, decide_eq_false z2]; simp
              subst hR2
              clear hR z2
              subst z1
              go_wp2
              go_ret
              exact ⟨rfl, Hst.out.known, Kp.mono HKw.out (by simp)⟩
          · have z1b : (nv == 0) = false := by simpa using z1
            have hR2 : R = (false, L) := by rw [hR, decide_eq_false z1]; rfl
            subst hR2
            clear hR z1
            go_wp2
            go_ret
            exact ⟨rfl, Hst.out.known, Kp.mono HKw.out (by simp)⟩
        by_cases h16 : k = 16
        · have hR : R = (decide (nv = 0) && decide (st = 0), L) := by
            rw [HR.out]
            unfold stepJ
            rw [if_pos (by simp only; omega)]
          have b17 : ((k : Int) == 17) = false := by simp; omega
          have b16 : ((k : Int) == 16) = true := by simp; omega
          clear HR h17 h16
          by_cases z1 : nv = 0
          · by_cases z2 : st = 0
            · have hR2 : R = (true, L) := by rw [hR, z1, z2]; rfl
              subst hR2
              clear hR
              subst z1
              subst z2
              go_wp2
              go_ret
              exact ⟨rfl, Hst.out.known, Kp.mono HKw.out (by simp)⟩
            · have z2b : (st == 0) = false := by simpa using z2
              have hR2 : R = (false, L) := by rw [hR, decide_eq_false z2]; simp
              subst hR2
              clear hR z2
              subst z1
              go_wp2
              go_ret
              exact ⟨rfl, Hst.out.known, Kp.mono HKw.out (by simp)⟩
          · have z1b : (nv == 0) = false := by simpa using z1
            have hR2 : R = (false, L) := by rw [hR, decide_eq_false z1]; rfl
            subst hR2
            clear hR z1
            go_wp2
            go_ret
            exact ⟨rfl, Hst.out.known, Kp.mono HKw.out (by simp)⟩
        by_cases h22 : k = 22
        · have hR : R = (true, L) := by
            rw [HR.out]
            unfold stepJ
            rw [if_neg (by simp only; omega), if_pos (by simp only; omega)]
          have b17 : ((k : Int) == 17) = false := by simp; omega
          have b16 : ((k : Int) == 16) = false := by simp; omega
          have b22 : ((k : Int) == 22) = true := by simp; omega
          clear HR h17 h16 h22
          subst hR
          go_wp2
          go_ret
          exact ⟨rfl, Hst.out.known, Kp.mono HKw.out (by simp)⟩
        by_cases h18 : k = 18
        · have hR : R = reachP L a.toNat ⟨true, nv, st⟩ := by
            rw [HR.out]
            unfold stepJ
            rw [if_neg (by simp only; omega), if_neg (by simp only; omega), if_pos (by simp only; omega)]
          obtain ⟨ha1, ha2⟩ := Hj.out (by omega)
          obtain ⟨j, rfl⟩ : ∃ j : Nat, a = (j : Int) := ⟨a.toNat, by omega⟩
          rw [Int.toNat_natCast] at hR
          have hjl : j < L.length := by omega
          have b17 : ((k : Int) == 17) = false := by simp; omega
          have b16 : ((k : Int) == 16) = false := by simp; omega
          have b22 : ((k : Int) == 22) = false := by simp; omega
          have b18 : ((k : Int) == 18) = true := by simp; omega
          clear HR h17 h16 h22 h18
          subst hR
          have Hc : Hid _ := HRc.out L j ⟨true, nv, st⟩ w5 rfl hjl Hst.out.flow Hst.out.known
          go_wp2_with fail
          refine Calls.mono Hc.out ?_
          rintro e6 w6 ⟨rfl, k6, kp6⟩
          have Hk6 : Hid (KBox w6 b _ ∧ Kp [b] w w6) := ⟨k6, Kp.trans (Kp.mono HKw.out (by simp)) kp6⟩
          clear k6 kp6 Hc m0 m1 m2 m3 mf y0 y1 y2 y3
          go_wp2
          go_ret
          exact ⟨rfl, Hk6.out⟩
        by_cases h19 : k = 19
        · have hR : R = (if (reachP L a.toNat ⟨true, nv, st⟩).1 = true then reachP (reachP L a.toNat ⟨true, nv, st⟩).2 (i + 1) ⟨true, nv, st⟩ else (false, (reachP L a.toNat ⟨true, nv, st⟩).2)) := by
            rw [HR.out]
            unfold stepJ
            rw [if_neg (by simp only; omega), if_neg (by simp only; omega), if_neg (by simp only; omega), if_pos (by simp only; omega)]
          obtain ⟨ha1, ha2⟩ := Hj.out (by omega)
          obtain ⟨j, rfl⟩ : ∃ j : Nat, a = (j : Int) := ⟨a.toNat, by omega⟩
          rw [Int.toNat_natCast] at hR
          have hjl : j < L.length := by omega
          have b17 : ((k : Int) == 17) = false := by simp; omega
          have b16 : ((k : Int) == 16) = false := by simp; omega
          have b22 : ((k : Int) == 22) = false := by simp; omega
          have b18 : ((k : Int) == 18) = false := by simp; omega
          have b19 : ((k : Int) == 19) = true := by simp; omega
          clear HR h17 h16 h22 h18 h19
          have Hc : Hid _ := HRc.out L j ⟨true, nv, st⟩ w5 rfl hjl Hst.out.flow Hst.out.known
          have hl1 := reach_len L j ⟨true, nv, st⟩
          generalize reachP L j ⟨true, nv, st⟩ = r1 at *
          obtain ⟨c1, L1⟩ := r1
          simp only at hl1 Hc hR
          have Hl1 : Hid _ := hl1
          clear hl1
          have HR : Hid _ := hR
          clear hR
          go_wp2_with fail
          refine Calls.mono Hc.out ?_
          rintro e6 w6 ⟨rfl, k6, kp6⟩
          have Hk6 : Hid (KBox w6 b L1 ∧ Kp [b] w w6) := ⟨k6, Kp.trans (Kp.mono HKw.out (by simp)) kp6⟩
          have hm6 := Hst.out.own.kp kp6 (by simpa using Hnb.out.1)
          have Hw6 : Hid _ := Hst.out.flow.kp kp6 (by simpa using Hne.out)
          clear k6 kp6 Hc m0 m1 m2 m3 mf y0 y1 y2 y3
          obtain ⟨m0, m1, m2, mf⟩ := hm6.cells
          have m3 := hm6.lt
          simp only at m0 m1 m2
          clear hm6
          cases c1
          · have hR2 : R = (false, L1) := by rw [HR.out]; rfl
            subst hR2
            go_wp2
            go_ret
            exact ⟨rfl, Hk6.out⟩
          · have hR2 : R = reachP L1 (i + 1) ⟨true, nv, st⟩ := by rw [HR.out]; rfl
            subst hR2
            have Hc : Hid _ := HRc.out L1 (i + 1) ⟨true, nv, st⟩ w6 Hl1.out (by omega) Hw6.out Hk6.out.1
            rw [E1.out] at Hc
            go_wp2_with fail
            refine Calls.mono Hc.out ?_
            rintro e7 w7 ⟨rfl, k7, kp7⟩
            have Hk7 : Hid (KBox w7 b _ ∧ Kp [b] w w7) := ⟨k7, Kp.trans Hk6.out.2 kp7⟩
            clear k7 kp7 Hc m0 m1 m2 m3 mf
            go_wp2
            go_ret
            exact ⟨rfl, Hk7.out⟩
        by_cases h20 : k = 20
        · have hR : R = (if (reachP L a.toNat ⟨true, nv + 1, st⟩).1 = true then reachP (reachP L a.toNat ⟨true, nv + 1, st⟩).2 (i + 1) ⟨true, nv, st + 1⟩ else (false, (reachP L a.toNat ⟨true, nv + 1, st⟩).2)) := by
            rw [HR.out]
            unfold stepJ
            rw [if_neg (by simp only; omega), if_neg (by simp only; omega), if_neg (by simp only; omega), if_neg (by simp only; omega), if_pos (by simp only; omega)]
          obtain ⟨ha1, ha2⟩ := Hj.out (by omega)
          obtain ⟨j, rfl⟩ : ∃ j : Nat, a = (j : Int) := ⟨a.toNat, by omega⟩
          rw [Int.toNat_natCast] at hR
          have hjl : j < L.length := by omega
          have b17 : ((k : Int) == 17) = false := by simp; omega
          have b16 : ((k : Int) == 16) = false := by simp; omega
          have b22 : ((k : Int) == 22) = false := by simp; omega
          have b18 : ((k : Int) == 18) = false := by simp; omega
          have b19 : ((k : Int) == 19) = false := by simp; omega
          have b20 : ((k : Int) == 20) = true := by simp; omega
          clear HR h17 h16 h22 h18 h19 h20
          have mf2 := mf 2
          have hkp : Kp [nb] w5 ((w5.setCell ⟨nb, 2, none⟩ (.int .i64 (st + 1))).alloc (.cells #[.bool true, .int .i64 (nv + 1), .int .i64 st] 153)) := (Kp.setCell w5 ⟨nb, 2, none⟩ (by simp) _).trans (Kp.alloc _ _ _)
          have hmA : MBox ((w5.setCell ⟨nb, 2, none⟩ (.int .i64 (st + 1))).alloc (.cells #[.bool true, .int .i64 (nv + 1), .int .i64 st] 153)) nb ⟨true, nv, st + 1⟩ := (Hst.out.own.setT (st + 1)).kp (Kp.alloc [] _ _) (by simp)
          have hmB : MBox ((w5.setCell ⟨nb, 2, none⟩ (.int .i64 (st + 1))).alloc (.cells #[.bool true, .int .i64 (nv + 1), .int .i64 st] 153)) w5.heap.size ⟨true, nv + 1, st⟩ := by
            have := (MapKept.heap_alloc (w5.setCell ⟨nb, 2, none⟩ (.int .i64 (st + 1))) (.cells #[.bool true, .int .i64 (nv + 1), .int .i64 st] 153)).1
            rw [show (w5.setCell ⟨nb, 2, none⟩ (.int .i64 (st + 1))).heap.size = w5.heap.size by simp [World.setCell]] at this
            exact this
          have Hcl : Hid (∀ (wx : World), wx = ((w5.setCell ⟨nb, 2, none⟩ (.int .i64 (st + 1))).alloc (.cells #[.bool true, .int .i64 (nv + 1), .int .i64 st] 153)) → MBox wx nb ⟨true, nv, st + 1⟩ ∧ MBox wx w5.heap.size ⟨true, nv + 1, st⟩ ∧ KBox wx b L ∧ WBox wx fp p nt cap p' fs.length cap' b L.length nc ∧ IBox wx w.heap.size ⟨k, j, c⟩ ∧ Kp [] w wx ∧ w5.heap.size ≠ b) := fun wx hwx => by
            subst hwx
            have hw5 := Kp.size HKw.out
            have hsz := Hsz.out
            have hap := Hst.out.apart
            have hk0 := Kp.size HkX.out
            refine ⟨hmA, hmB, Hst.out.known.kp hkp (by simpa using Ne.symm Hnb.out.1), Hst.out.flow.kp hkp ?_, Hst.out.ins.kp hkp (by simpa using Hnb.out.2.2), Kp.then HKw.out hkp ?_, by omega⟩
            · simp only [List.mem_singleton]; omega
            · intro y hy; right; simp only [List.mem_singleton] at hy; rw [hy]; omega
          clear hkp hmA hmB
          go_upto_region 19 with fail
          obtain ⟨w6, hw6⟩ : ∃ w6, w6 = ((w5.setCell ⟨nb, 2, none⟩ (.int .i64 (st + 1))).alloc (.cells #[.bool true, .int .i64 (nv + 1), .int .i64 st] 153)) := ⟨_, rfl⟩
          rw [← hw6]
          obtain ⟨hmA, hmB, hK6, hW6, hI6, hkw6, hnb6⟩ := Hcl.out w6 hw6
          clear hw6 Hcl m0 m1 m2 m3 mf mf2 y0 y1 y2 y3
          generalize w5.heap.size = nb2 at *
          obtain ⟨y0, y1, y2, y3⟩ := hI6.cells
          obtain ⟨n0, n1, n2, _⟩ := hmB.cells
          have n3 := hmB.lt
          simp only at n0 n1 n2 y0 y1 y2
          have Hc : Hid _ := HRc.out L j ⟨true, nv + 1, st⟩ w6 rfl hjl hW6 hK6
          have HmA : Hid (MBox w6 nb ⟨true, nv, st + 1⟩) := hmA
          have HW6 : Hid (WBox w6 fp p nt cap p' fs.length cap' b L.length nc) := hW6
          have HKw6 : Hid (Kp [] w w6) := hkw6
          clear hmA hmB hK6 hW6 hI6 hkw6
          have hl1 := reach_len L j ⟨true, nv + 1, st⟩
          generalize reachP L j ⟨true, nv + 1, st⟩ = r1 at *
          obtain ⟨c1, L1⟩ := r1
          simp only at hl1 Hc hR
          have Hl1 : Hid _ := hl1
          have HR : Hid _ := hR
          clear hl1 hR
          go_wp2_with fail
          refine Calls.mono Hc.out ?_
          rintro e7 w7 ⟨rfl, k7, kp7⟩
          have Hk7 : Hid (KBox w7 b L1 ∧ Kp [b] w w7) := ⟨k7, Kp.trans (Kp.mono HKw6.out (by simp)) kp7⟩
          have hm7 := MBox.kp HmA.out kp7 (by simpa using Hnb.out.1)
          have Hw7 : Hid (WBox w7 fp p nt cap p' fs.length cap' b L.length nc) := WBox.kp HW6.out kp7 (by simpa using Hne.out)
          clear k7 kp7 Hc n0 n1 n2 n3 y0 y1 y2 y3
          obtain ⟨m0, m1, m2, _⟩ := hm7.cells
          have m3 := hm7.lt
          simp only at m0 m1 m2
          clear hm7
          cases c1
          · have hR2 : R = (false, L1) := by rw [HR.out]; rfl
            subst hR2
            go_wp2
            go_ret
            exact ⟨rfl, Hk7.out⟩
          · have hR2 : R = reachP L1 (i + 1) ⟨true, nv, st + 1⟩ := by rw [HR.out]; rfl
            subst hR2
            have Hc : Hid _ := HRc.out L1 (i + 1) ⟨true, nv, st + 1⟩ w7 Hl1.out (by omega) Hw7.out Hk7.out.1
            rw [E1.out] at Hc
            go_wp2_with fail
            refine Calls.mono Hc.out ?_
            rintro e8 w8 ⟨rfl, k8, kp8⟩
            have Hk8 : Hid (KBox w8 b _ ∧ Kp [b] w w8) := ⟨k8, Kp.trans Hk7.out.2 kp8⟩
            clear k8 kp8 Hc m0 m1 m2 m3
            go_wp2
            go_ret
            exact ⟨rfl, Hk8.out⟩
        by_cases h21 : k = 21
        · have hR : R = (if 0 ≤ st - 1 then reachP L (i + 1) ⟨true, nv, st - 1⟩ else (false, L)) := by
            rw [HR.out]
            unfold stepJ
            rw [if_neg (by simp only; omega), if_neg (by simp only; omega), if_neg (by simp only; omega), if_neg (by simp only; omega), if_neg (by simp only; omega), if_pos (by simp only; omega)]
          have b17 : ((k : Int) == 17) = false := by simp; omega
          have b16 : ((k : Int) == 16) = false := by simp; omega
          have b22 : ((k : Int) == 22) = false := by simp; omega
          have b18 : ((k : Int) == 18) = false := by simp; omega
          have b19 : ((k : Int) == 19) = false := by simp; omega
          have b20 : ((k : Int) == 20) = false := by simp; omega
          have b21 : ((k : Int) == 21) = true := by simp; omega
          clear HR h17 h16 h22 h18 h19 h20 h21
          have mf2 := mf 2
          have hkp : Kp [nb] w5 (w5.setCell ⟨nb, 2, none⟩ (.int .i64 (st - 1))) := Kp.setCell w5 ⟨nb, 2, none⟩ (by simp) _
          have Hcl : Hid (∀ (wx : World), wx = (w5.setCell ⟨nb, 2, none⟩ (.int .i64 (st - 1))) → MBox wx nb ⟨true, nv, st - 1⟩ ∧ KBox wx b L ∧ WBox wx fp p nt cap p' fs.length cap' b L.length nc ∧ Kp [] w wx) := fun wx hwx => by
            subst hwx
            have hw5 := Kp.size HKw.out
            have hsz := Hsz.out
            have hap := Hst.out.apart
            have hk0 := Kp.size HkX.out
            refine ⟨Hst.out.own.setT (st - 1), Hst.out.known.kp hkp (by simpa using Ne.symm Hnb.out.1), Hst.out.flow.kp hkp ?_, Kp.then HKw.out hkp ?_⟩
            · simp only [List.mem_singleton]; omega
            · intro y hy; right; simp only [List.mem_singleton] at hy; rw [hy]; omega
          clear hkp
          go_upto_region 22 with fail
          obtain ⟨w6, hw6⟩ : ∃ w6, w6 = (w5.setCell ⟨nb, 2, none⟩ (.int .i64 (st - 1))) := ⟨_, rfl⟩
          rw [← hw6]
          obtain ⟨hmA, hK6, hW6, hkw6⟩ := Hcl.out w6 hw6
          clear hw6 Hcl m0 m1 m2 m3 mf mf2 y0 y1 y2 y3
          obtain ⟨m0, m1, m2, _⟩ := hmA.cells
          have m3 := hmA.lt
          simp only at m0 m1 m2
          have Hc : Hid _ := HRc.out L (i + 1) ⟨true, nv, st - 1⟩ w6 rfl hi hW6 hK6
          rw [E1.out] at Hc
          have Hk6 : Hid (KBox w6 b L ∧ Kp [b] w w6) := ⟨hK6, Kp.mono hkw6 (by simp)⟩
          clear hmA hK6 hW6 hkw6
          by_cases hst : 0 ≤ st - 1
          · rw [if_pos hst] at hR
            subst hR
            go_wp2_with fail
            refine Calls.mono Hc.out ?_
            rintro e7 w7 ⟨rfl, k7, kp7⟩
            have Hk7 : Hid (KBox w7 b _ ∧ Kp [b] w w7) := ⟨k7, Kp.trans Hk6.out.2 kp7⟩
            clear k7 kp7 Hc m0 m1 m2 m3
            go_wp2
            go_ret
            exact ⟨rfl, Hk7.out⟩
          · rw [if_neg hst] at hR
            subst hR
            clear Hc
            go_wp2
            go_ret
            exact ⟨rfl, Hk6.out⟩
        have hR : R = reachP L (i + 1) ⟨true, nv, st⟩ := by
          rw [HR.out]
          unfold stepJ
          rw [if_neg (by simp only; omega), if_neg (by simp only; omega), if_neg (by simp only; omega), if_neg (by simp only; omega), if_neg (by simp only; omega), if_neg (by simp only; omega)]
        have b17 : ((k : Int) == 17) = false := by simp; omega
        have b16 : ((k : Int) == 16) = false := by simp; omega
        have b22 : ((k : Int) == 22) = false := by simp; omega
        have b18 : ((k : Int) == 18) = false := by simp; omega
        have b19 : ((k : Int) == 19) = false := by simp; omega
        have b20 : ((k : Int) == 20) = false := by simp; omega
        have b21 : ((k : Int) == 21) = false := by simp; omega
        clear HR h17 h16 h22 h18 h19 h20 h21
        subst hR
        have Hc : Hid _ := HRc.out L (i + 1) ⟨true, nv, st⟩ w5 rfl hi Hst.out.flow Hst.out.known
        rw [E1.out] at Hc
        go_wp2_with fail
        refine Calls.mono Hc.out ?_
        rintro e6 w6 ⟨rfl, k6, kp6⟩
        have Hk6 : Hid (KBox w6 b _ ∧ Kp [b] w w6) := ⟨k6, Kp.trans (Kp.mono HKw.out (by simp)) kp6⟩
        clear k6 kp6 Hc m0 m1 m2 m3 mf y0 y1 y2 y3
        go_wp2
        go_ret
        exact ⟨rfl, Hk6.out⟩
end
end Go.Proofs.YtlekoldicnfeeaaDoor
