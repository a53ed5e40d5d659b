/-
  The document's layer code: what is known ahead of an instruction (told).
-/
import Derived.Test.YtlekoldicnfeeaaDoorC7
import Derived.Laws.StructEq
namespace Go.Proofs.YtlekoldicnfeeaaDoor
open Go.RowKit Go.Deep
/-- What is known ahead of an instruction. -/
structure Sn where
  is : Bool
  vals : Int
  tries : Int
deriving DecidableEq
instance : Inhabited Sn := ⟨⟨false, 0, 0⟩⟩
/-- A row of one's own of what is known. -/
def SBox (w : World) (b : Nat) (L : List Sn) : Prop := ∃ cs, w.heap[b]? = some (.cells cs 117) ∧ cs.size = L.length * 3 ∧ ∀ i (hi : i < L.length), cs[i * 3]? = some (.bool (L[i]'hi).is) ∧ cs[i * 3 + 1]? = some (.int .i64 (L[i]'hi).vals) ∧ cs[i * 3 + 2]? = some (.int .i64 (L[i]'hi).tries)
theorem SBox.lt {w : World} {b : Nat} {L : List Sn} (h : SBox w b L) : b < w.heap.size := by
  obtain ⟨cs, h1, _⟩ := h
  exact (Array.getElem?_eq_some_iff.1 h1).1
theorem SBox.kp {X : List Nat} {w w' : World} {b : Nat} {L : List Sn} (h : SBox w b L) (hk : Kp X w w') (hx : b ∉ X) : SBox w' b L := by
  have hl := h.lt
  obtain ⟨cs, h1, h2⟩ := h
  exact ⟨cs, (hk.block b hl hx).trans h1, h2⟩
theorem SBox.cells {w : World} {b : Nat} {L : List Sn} (h : SBox w b L) (i : Nat) (hi : i < L.length) : w.cell? ⟨b, i * 3, none⟩ = some (.bool (L[i]'hi).is) ∧ w.cell? ⟨b, i * 3 + 1, none⟩ = some (.int .i64 (L[i]'hi).vals) ∧ w.cell? ⟨b, i * 3 + 2, none⟩ = some (.int .i64 (L[i]'hi).tries) ∧ (∀ j, w.frozen? ⟨b, j, none⟩ = false) := by
  obtain ⟨cs, h1, h2, h3⟩ := h
  obtain ⟨c0, c1, c2⟩ := h3 i hi
  refine ⟨?_, ?_, ?_, fun j => ?_⟩
  · simp [World.cell?, h1, c0]
  · simp [World.cell?, h1, c1]
  · simp [World.cell?, h1, c2]
  · simp [World.frozen?, h1]
theorem SBox.set {w : World} {b : Nat} {L : List Sn} (h : SBox w b L) (i : Nat) (hi : i < L.length) (s : Sn) : SBox (((w.setCell ⟨b, i * 3, none⟩ (.bool s.is)).setCell ⟨b, i * 3 + 1, none⟩ (.int .i64 s.vals)).setCell ⟨b, i * 3 + 2, none⟩ (.int .i64 s.tries)) b (L.set i s) := by
  obtain ⟨cs, h1, h2, h3⟩ := h
  refine ⟨((cs.setIfInBounds (i * 3) (.bool s.is)).setIfInBounds (i * 3 + 1) (.int .i64 s.vals)).setIfInBounds (i * 3 + 2) (.int .i64 s.tries), ?_, ?_, ?_⟩
  · simp [World.setCell, Array.getElem?_modify, h1]
  · simp [h2]
  · intro j hj
    have hj' : j < L.length := by simpa using hj
    obtain ⟨c0, c1, c2⟩ := h3 j hj'
    by_cases hij : i = j
    · subst hij
      simp [Array.getElem?_setIfInBounds, h2]
      omega
    · simp only [Array.getElem?_setIfInBounds, List.getElem_set, if_neg hij]
      refine ⟨?_, ?_, ?_⟩
      · rw [if_neg (by omega), if_neg (by omega), if_neg (by omega)]; exact c0
      · rw [if_neg (by omega), if_neg (by omega), if_neg (by omega)]; exact c1
      · rw [if_neg (by omega), if_neg (by omega), if_neg (by omega)]; exact c2
theorem part64 : Tryd.prog.underlying 117 = some (.struct (Tryd.prog.fieldsOf 117)) := by kernel_rfl
theorem held64 : Tryd.prog.stoodInHeld 117 = false := by kernel_rfl
theorem guard64 : Tryd.prog.eqGuardType Tryd.prog.depth 117 = false := by kernel_rfl
theorem eq64 (a b : Bool) (c d e f : Int) (w : World) : (binOp .eql 117 (.agg #[.bool a, .int .i64 c, .int .i64 e]) (.agg #[.bool b, .int .i64 d, .int .i64 f])).run Tryd.prog w = .ok (.bool (a == b && (c == d && e == f))) w := by
  have u3 := Tryd.underlying3
  have u4 := Tryd.underlying4
  rw [run_eql_struct, show (10000 : Nat) = 9999 + 1 from rfl, run_equalIn_agg w 9999 117 _ _ part64 held64]
  simp only [Program.fieldsOf, Tryd.underlying117]
  go_simp
  by_cases h1 : a = b <;> by_cases h2 : c = d <;> by_cases h3 : e = f <;> simp [h1, h2, h3]
def toldP (L : List Sn) (i : Nat) (s : Sn) (fr : Int) : Bool × List Sn := if ((L[i]?).getD default).is = true then (decide ((L[i]?).getD default = s), L) else (decide (fr < i), L.set i s)
section
set_option maxHeartbeats 4000000
set_option maxRecDepth 100000
theorem told_any (w : World) (b cap : Nat) (L : List Sn) (i : Nat) (hi : i < L.length) (s : Sn) (fr : Int) (h : SBox w b L) (_hL : L.length ≤ 100000) :
    Calls Tryd.prog 51 #[.slice (some ⟨b, 0, none⟩) L.length cap, .int .i64 i, .agg #[.bool s.is, .int .i64 s.vals, .int .i64 s.tries], .int .i64 fr] w fun e w' => e = .returned (.bool (toldP L i s fr).1) ∧ SBox w' b (toldP L i s fr).2 ∧ Kp [b] w w' := by
  obtain ⟨c0, c1, c2, fz⟩ := h.cells i hi
  have hlt := h.lt
  have e0 : (L[i]?).getD default = L[i]'hi := by simp [hi]
  have hset := fun t : Sn => h.set i hi t
  generalize hx : (L[i]'hi) = x at *
  obtain ⟨xi, xv, xt⟩ := x
  simp only at *
  have H : Hid (SBox w b L) := h
  have f0 := fz (i * 3)
  have f1 := fz (i * 3 + 1)
  have f2 := fz (i * 3 + 2)
  cases xi with
  | true =>
    have hT : toldP L i s fr = (decide ((⟨true, xv, xt⟩ : Sn) = s), L) := by unfold toldP; rw [e0]; rfl
    rw [hT]
    clear hT hset h
    have hg := guard64
    have he := eq64 true s.is xv s.vals xt s.tries
    go_enter Tryd.func51, Tryd.ntmps51
    go_wp2_with fail
    go_quiet (fail)
    go_wp2
    go_ret
    refine ⟨?_, H.out.kp ((Kp.alloc [] _ _).drewN nq) (by simp), (Kp.alloc [b] _ _).drewN nq⟩
    obtain ⟨s1, s2, s3⟩ := s
    cases s1 <;> by_cases h2 : xv = s2 <;> by_cases h3 : xt = s3 <;> simp [h2, h3]
  | false =>
    have hT : toldP L i s fr = (decide (fr < i), L.set i s) := by unfold toldP; rw [e0]; rfl
    rw [hT]
    have Hs : Hid _ := hset s
    clear hT hset h
    go_enter Tryd.func51, Tryd.ntmps51
    go_wp2
    go_ret
    refine ⟨rfl, SBox.kp Hs.out (Kp.alloc [] _ _) (by simp), Kp.trans ?_ (Kp.alloc _ _ _)⟩
    exact ((Kp.setCell w ⟨b, i * 3, none⟩ (by simp) _).trans (Kp.setCell _ ⟨b, i * 3 + 1, none⟩ (by simp) _)).trans (Kp.setCell _ ⟨b, i * 3 + 2, none⟩ (by simp) _)
end
end Go.Proofs.YtlekoldicnfeeaaDoor
