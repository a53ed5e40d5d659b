/-
  The program's Check: what is known ahead of an instruction, in its memory; what is told of one (reach).
-/
import Derived.Test.YtlekoldicnfeeaaDoorC12
import Derived.Test.YtlekoldicnfeeaaDoorE0
import Derived.Laws.StructEq
namespace Go.Proofs.YtlekoldicnfeeaaDoor
open Go.RowKit Go.Deep
/-- A row of one's own of what is known. -/
def KBox (w : World) (b : Nat) (L : List Sn) : Prop := ∃ cs, w.heap[b]? = some (.cells cs 153) ∧ cs.size = L.length * 3 ∧ ∀ i (hi : i < L.length), cs[i * 3]? = some (.bool (L[i]'hi).is) ∧ cs[i * 3 + 1]? = some (.int .i64 (L[i]'hi).vals) ∧ cs[i * 3 + 2]? = some (.int .i64 (L[i]'hi).tries)
theorem KBox.lt {w : World} {b : Nat} {L : List Sn} (h : KBox w b L) : b < w.heap.size := by
  obtain ⟨cs, h1, _⟩ := h
  exact (Array.getElem?_eq_some_iff.1 h1).1
theorem KBox.kp {X : List Nat} {w w' : World} {b : Nat} {L : List Sn} (h : KBox w b L) (hk : Kp X w w') (hx : b ∉ X) : KBox w' b L := by
  have hl := h.lt
  obtain ⟨cs, h1, h2⟩ := h
  exact ⟨cs, (hk.block b hl hx).trans h1, h2⟩
theorem KBox.cells {w : World} {b : Nat} {L : List Sn} (h : KBox w b L) (i : Nat) (hi : i < L.length) : w.cell? ⟨b, i * 3, none⟩ = some (.bool (L[i]'hi).is) ∧ w.cell? ⟨b, i * 3 + 1, none⟩ = some (.int .i64 (L[i]'hi).vals) ∧ w.cell? ⟨b, i * 3 + 2, none⟩ = some (.int .i64 (L[i]'hi).tries) ∧ (∀ j, w.frozen? ⟨b, j, none⟩ = false) := by
  obtain ⟨cs, h1, h2, h3⟩ := h
  obtain ⟨c0, c1, c2⟩ := h3 i hi
  refine ⟨?_, ?_, ?_, fun j => ?_⟩
  · simp [World.cell?, h1, c0]
  · simp [World.cell?, h1, c1]
  · simp [World.cell?, h1, c2]
  · simp [World.frozen?, h1]
theorem KBox.set {w : World} {b : Nat} {L : List Sn} (h : KBox w b L) (i : Nat) (hi : i < L.length) (s : Sn) : KBox (((w.setCell ⟨b, i * 3, none⟩ (.bool s.is)).setCell ⟨b, i * 3 + 1, none⟩ (.int .i64 s.vals)).setCell ⟨b, i * 3 + 2, none⟩ (.int .i64 s.tries)) b (L.set i s) := by
  obtain ⟨cs, h1, h2, h3⟩ := h
  refine ⟨((cs.setIfInBounds (i * 3) (.bool s.is)).setIfInBounds (i * 3 + 1) (.int .i64 s.vals)).setIfInBounds (i * 3 + 2) (.int .i64 s.tries), ?_, ?_, ?_⟩
  · simp [World.setCell, Array.getElem?_modify, h1]
  · simp [h2]
  · intro j hj
    have hj' : j < L.length := by simpa using hj
    obtain ⟨c0, c1, c2⟩ := h3 j hj'
    by_cases hij : i = j
    · subst hij
      simp [Array.getElem?_setIfInBounds, h2]
      omega
    · simp only [Array.getElem?_setIfInBounds, List.getElem_set, if_neg hij]
      refine ⟨?_, ?_, ?_⟩
      · rw [if_neg (by omega), if_neg (by omega), if_neg (by omega)]; exact c0
      · rw [if_neg (by omega), if_neg (by omega), if_neg (by omega)]; exact c1
      · rw [if_neg (by omega), if_neg (by omega), if_neg (by omega)]; exact c2
theorem part153 : Tryd.prog.underlying 153 = some (.struct (Tryd.prog.fieldsOf 153)) := by kernel_rfl
theorem held153 : Tryd.prog.stoodInHeld 153 = false := by kernel_rfl
theorem guard153 : Tryd.prog.eqGuardType Tryd.prog.depth 153 = false := by kernel_rfl
theorem eq153 (a b : Bool) (c d e f : Int) (w : World) : (binOp .eql 153 (.agg #[.bool a, .int .i64 c, .int .i64 e]) (.agg #[.bool b, .int .i64 d, .int .i64 f])).run Tryd.prog w = .ok (.bool (a == b && (c == d && e == f))) w := by
  have u3 := Tryd.underlying3
  have u4 := Tryd.underlying4
  rw [run_eql_struct, show (10000 : Nat) = 9999 + 1 from rfl, run_equalIn_agg w 9999 153 _ _ part153 held153]
  simp only [Program.fieldsOf, Tryd.underlying153]
  go_simp
  by_cases h1 : a = b <;> by_cases h2 : c = d <;> by_cases h3 : e = f <;> simp [h1, h2, h3]
/-- One's own cells of what is known. -/
def MBox (w : World) (b : Nat) (s : Sn) : Prop := w.heap[b]? = some (.cells #[.bool s.is, .int .i64 s.vals, .int .i64 s.tries] 153)
theorem MBox.lt {w : World} {b : Nat} {s : Sn} (h : MBox w b s) : b < w.heap.size := (Array.getElem?_eq_some_iff.1 h).1
theorem MBox.kp {X : List Nat} {w w' : World} {b : Nat} {s : Sn} (h : MBox w b s) (hk : Kp X w w') (hx : b ∉ X) : MBox w' b s := (hk.block b h.lt hx).trans h
theorem MBox.cells {w : World} {b : Nat} {s : Sn} (h : MBox w b s) : w.cell? ⟨b, 0, none⟩ = some (.bool s.is) ∧ w.cell? ⟨b, 1, none⟩ = some (.int .i64 s.vals) ∧ w.cell? ⟨b, 2, none⟩ = some (.int .i64 s.tries) ∧ (∀ j, w.frozen? ⟨b, j, none⟩ = false) := by
  unfold MBox at h
  refine ⟨?_, ?_, ?_, fun j => ?_⟩ <;> simp [World.cell?, World.frozen?, h]
theorem MBox.setV {w : World} {b : Nat} {s : Sn} (h : MBox w b s) (v : Int) : MBox (w.setCell ⟨b, 1, none⟩ (.int .i64 v)) b ⟨s.is, v, s.tries⟩ := by
  unfold MBox at *
  simp [World.setCell, Array.getElem?_modify, h]
theorem MBox.setT {w : World} {b : Nat} {s : Sn} (h : MBox w b s) (v : Int) : MBox (w.setCell ⟨b, 2, none⟩ (.int .i64 v)) b ⟨s.is, s.vals, v⟩ := by
  unfold MBox at *
  simp [World.setCell, Array.getElem?_modify, h]
theorem MBox.set3 {w : World} {b : Nat} {s : Sn} (h : MBox w b s) (t : Sn) : MBox (((w.setCell ⟨b, 0, none⟩ (.bool t.is)).setCell ⟨b, 1, none⟩ (.int .i64 t.vals)).setCell ⟨b, 2, none⟩ (.int .i64 t.tries)) b t := by
  unfold MBox at *
  simp [World.setCell, Array.getElem?_modify, h]
theorem made_known (w : World) (n : Nat) : KBox (w.alloc (.cells ((madeCells #[.bool false, .int .i64 0, .int .i64 0] ((n + 1) * 3)).setIfInBounds 0 (.bool true)) 153)) w.heap.size (startL n) := by
  have hm : ∀ k, k < (n + 1) * 3 → (madeCells #[Value.bool false, .int .i64 0, .int .i64 0] ((n + 1) * 3))[k]? = #[Value.bool false, .int .i64 0, .int .i64 0][k % 3]? := fun k hk => by
    have : k % 3 < 3 := by omega
    simp [madeCells, hk, this]
  refine ⟨(madeCells #[.bool false, .int .i64 0, .int .i64 0] ((n + 1) * 3)).setIfInBounds 0 (.bool true), ?_, ?_, ?_⟩
  · exact (MapKept.heap_alloc w _).1
  · simp [madeCells, startL]
  · intro i hi
    have hi2 : i < n + 1 := by simpa [startL] using hi
    have h0 := hm (i * 3) (by omega)
    have h1 := hm (i * 3 + 1) (by omega)
    have h2 := hm (i * 3 + 2) (by omega)
    rw [show i * 3 % 3 = 0 by omega] at h0
    rw [show (i * 3 + 1) % 3 = 1 by omega] at h1
    rw [show (i * 3 + 2) % 3 = 2 by omega] at h2
    cases i with
    | zero => exact ⟨by simp [startL, madeCells], by simpa [startL, Array.getElem?_setIfInBounds] using h1, by simpa [startL, Array.getElem?_setIfInBounds] using h2⟩
    | succ j =>
      refine ⟨?_, ?_, ?_⟩
      · rw [Array.getElem?_setIfInBounds, if_neg (by omega), h0]; simp [startL]
      · rw [Array.getElem?_setIfInBounds, if_neg (by omega), h1]; simp [startL]
      · rw [Array.getElem?_setIfInBounds, if_neg (by omega), h2]; simp [startL]
theorem infos153 : (Tryd.prog.info? 153).map (fun i => (i.zero, i.size, i.bytes)) = some (some (.agg #[.bool false, .int .i64 0, .int .i64 0]), 3, 24) := by kernel_rfl
theorem make149 (n : Nat) (hn : n ≤ 65535) (w : World) : (Instr.makeSlice 149 (.int .i64 ((n : Int) + 1)) (.int .i64 ((n : Int) + 1))).run Tryd.prog w = .ok (.slice (some ⟨w.heap.size, 0, none⟩) (n + 1) (n + 1)) (w.alloc (.cells (madeCells #[.bool false, .int .i64 0, .int .i64 0] ((n + 1) * 3)) 153)) := by
  obtain ⟨i, h1, h2, h3, h4⟩ := info_parts infos153
  have hr := run_make (P := Tryd.prog) w 149 153 i _ Tryd.underlying149 h1 h2 .i64 .i64 ((n : Int) + 1) ((n : Int) + 1) (by omega) (Int.le_refl _) (by rw [h4]; omega) (by omega)
  rw [h3] at hr
  have e : ((n : Int) + 1).toNat = n + 1 := by omega
  rw [e] at hr
  exact hr
/-- The cells of a flow: a code, and what is known. -/
def WBox (w : World) (fp : Nat) (p : Option Addr) (nt cap : Nat) (p' : Option Addr) (nf cap' : Nat) (b n nc : Nat) : Prop := w.heap[fp]? = some (.cells #[.slice p nt cap, .slice p' nf cap', .slice (some ⟨b, 0, none⟩) n nc] 151)
section
variable {w w' : World} {fp : Nat} {p : Option Addr} {nt cap : Nat} {p' : Option Addr} {nf cap' : Nat} {b n nc : Nat}
theorem WBox.lt (h : WBox w fp p nt cap p' nf cap' b n nc) : fp < w.heap.size := (Array.getElem?_eq_some_iff.1 h).1
theorem WBox.kp {X : List Nat} (h : WBox w fp p nt cap p' nf cap' b n nc) (hk : Kp X w w') (hx : fp ∉ X) : WBox w' fp p nt cap p' nf cap' b n nc := (hk.block fp h.lt hx).trans h
theorem WBox.cells (h : WBox w fp p nt cap p' nf cap' b n nc) : w.cell? ⟨fp, 0, none⟩ = some (.slice p nt cap) ∧ w.cell? ⟨fp, 1, none⟩ = some (.slice p' nf cap') ∧ w.cell? ⟨fp, 2, none⟩ = some (.slice (some ⟨b, 0, none⟩) n nc) ∧ fp < w.heap.size := by
  have h2 := h.lt
  unfold WBox at h
  refine ⟨?_, ?_, ?_, h2⟩ <;> simp [World.cell?, h]
theorem WBox.ne {L : List Sn} (h : WBox w fp p nt cap p' nf cap' b n nc) (hk : KBox w b L) : fp ≠ b := by
  intro e
  obtain ⟨cs, h1, _⟩ := hk
  unfold WBox at h
  rw [e, h1] at h
  simp at h
end
/-- What is told of the place at: the answer, and what is known then. -/
def reachP (L : List Sn) (i : Nat) (s : Sn) : Bool × List Sn := if 5000 < s.vals then (false, L) else if ((L[i]?).getD default).is = true then (decide ((L[i]?).getD default = s), L) else (true, L.set i s)
section
set_option maxHeartbeats 8000000
set_option maxRecDepth 100000
theorem reach_any (w : World) (fp : Nat) (p : Option Addr) (nt cap : Nat) (p' : Option Addr) (nf cap' : Nat) (b nc : Nat) (L : List Sn) (i : Nat) (hi : i < L.length) (s : Sn) (hW : WBox w fp p nt cap p' nf cap' b L.length nc) (h : KBox w b L) (_hL : L.length ≤ 100000) :
    Calls Tryd.prog 70 #[.pointer (some ⟨fp, 0, none⟩), .int .i64 i, .agg #[.bool s.is, .int .i64 s.vals, .int .i64 s.tries]] w fun e w' => e = .returned (.bool (reachP L i s).1) ∧ KBox w' b (reachP L i s).2 ∧ Kp [b] w w' := by
  by_cases hv : 5000 < s.vals
  · have hT : reachP L i s = (false, L) := by unfold reachP; rw [if_pos hv]
    rw [hT]
    have H : Hid (KBox w b L) := h
    clear h hT hW
    go_enter Tryd.func70, Tryd.ntmps70
    go_wp2
    go_ret
    exact ⟨rfl, H.out.kp (Kp.alloc [] _ _) (by simp), Kp.alloc [b] _ _⟩
  have hne := hW.ne h
  have hka : Kp [] w (w.alloc (.cells #[.bool s.is, .int .i64 s.vals, .int .i64 s.tries] 153)) := Kp.alloc [] _ _
  have hWa := hW.kp hka (by simp)
  have hKa := h.kp hka (by simp)
  have hMa : MBox (w.alloc (.cells #[.bool s.is, .int .i64 s.vals, .int .i64 s.tries] 153)) w.heap.size s := (MapKept.heap_alloc w _).1
  have hbl := h.lt
  have Hka : Hid _ := Kp.mono hka (Y := [b]) (by simp)
  have HWa : Hid _ := hWa
  have HKa : Hid _ := hKa
  have HMa : Hid _ := hMa
  have Hne : Hid _ := hne
  clear hka hWa hKa hMa hne h hW
  obtain ⟨R, hR⟩ : ∃ R, R = reachP L i s := ⟨_, rfl⟩
  rw [← hR]
  unfold reachP at hR
  rw [if_neg hv] at hR
  have HR : Hid _ := hR
  clear hR
  go_enter Tryd.func70, Tryd.ntmps70
  go_upto_region 1 with fail
  generalize w.alloc (.cells #[.bool s.is, .int .i64 s.vals, .int .i64 s.tries] 153) = w0 at *
  obtain ⟨m0, m1, m2, mf⟩ := MBox.cells HMa.out
  have m3 := MBox.lt HMa.out
  obtain ⟨x0, x1, x2, x3⟩ := WBox.cells HWa.out
  obtain ⟨c0, c1, c2, fz⟩ := KBox.cells HKa.out i hi
  have hbl0 := KBox.lt HKa.out
  have e0 : (L[i]?).getD default = L[i]'hi := by simp [hi]
  have hset := fun t : Sn => KBox.set HKa.out i hi t
  rw [e0] at HR
  generalize hx : (L[i]'hi) = x at *
  obtain ⟨xi, xv, xt⟩ := x
  simp only at *
  have f0 := fz (i * 3)
  have f1 := fz (i * 3 + 1)
  have f2 := fz (i * 3 + 2)
  clear fz mf e0 hx
  have hi' : (i : Int) < L.length := by omega
  cases xi with
  | true =>
    have hR : R = (decide ((⟨true, xv, xt⟩ : Sn) = s), L) := by rw [HR.out]; rfl
    subst hR
    clear hset HR
    have hg := guard153
    have he := eq153 true s.is xv s.vals xt s.tries
    go_wp2_with fail
    go_quiet (fail)
    go_wp2
    go_ret
    refine ⟨?_, KBox.kp HKa.out ((Kp.refl [] _).drewN nq) (by simp), Kp.trans Hka.out ((Kp.refl _ _).drewN nq)⟩
    obtain ⟨s1, s2, s3⟩ := s
    cases s1 <;> by_cases h2 : xv = s2 <;> by_cases h3 : xt = s3 <;> simp [h2, h3]
  | false =>
    have hR : R = (true, L.set i s) := by rw [HR.out]; rfl
    subst hR
    have Hs : Hid _ := hset s
    clear HR hset
    go_wp2_with fail
    go_region
    all_goals go_wp2
    all_goals go_ret
    all_goals
      refine ⟨rfl, KBox.kp Hs.out ((Kp.refl [] _).drew) (by simp), Kp.trans Hka.out (Kp.drew ?_)⟩
      exact ((Kp.setCell w0 ⟨b, i * 3, none⟩ (by simp) _).trans (Kp.setCell _ ⟨b, i * 3 + 1, none⟩ (by simp) _)).trans (Kp.setCell _ ⟨b, i * 3 + 2, none⟩ (by simp) _)
end
end Go.Proofs.YtlekoldicnfeeaaDoor
