/-
  The document's layer code: what an instruction takes and puts (takes, puts).
-/
import Derived.Test.YtlekoldicnfeeaaDoorC9
namespace Go.Proofs.YtlekoldicnfeeaaDoor
open Go.RowKit Go.Deep
def takesP (fs : List Fn) (x : In) : Int :=
  if x.op = 6 ∨ x.op = 14 ∨ x.op = 17 ∨ x.op = 19 ∨ x.op = 22 ∨ x.op = 25 ∨ x.op = 8 ∨ x.op = 9 ∨ x.op = 10 then 1 else if x.op = 7 then x.b else if x.op = 13 then ((fs[x.a.toNat]?).getD default).free else if x.op = 11 ∨ x.op = 15 ∨ x.op = 16 then 2 else if x.op = 12 then (if x.a = 12 ∨ x.a = 14 then 1 else 2) else 0
def putsP (x : In) : Int := if x.op = 6 ∨ x.op = 14 ∨ x.op = 17 ∨ x.op = 19 ∨ x.op = 22 ∨ x.op = 25 ∨ x.op = 16 ∨ x.op = 18 ∨ x.op = 20 ∨ x.op = 21 then 0 else 1
section
set_option maxHeartbeats 8000000
set_option maxRecDepth 100000
theorem puts_any (x : In) (w : World) : Calls Tryd.prog 50 #[.agg #[.int .i64 x.op, .int .i64 x.a, .int .i64 x.b]] w fun e w' => e = .returned (.int .i64 (putsP x)) ∧ Below w.heap.size w w' := by
  obtain ⟨op, a, b⟩ := x
  have hb := (Below.refl w.heap.size w).alloc (Nat.le_refl _) (Obj.cells #[Value.int IntKind.i64 op, Value.int IntKind.i64 a, Value.int IntKind.i64 b] 47)
  have Hb : Hid _ := hb
  clear hb
  by_cases h : 0 ≤ op ∧ op ≤ 25
  · rcases ops op h with rfl | rfl | rfl | rfl | rfl | rfl | rfl | rfl | rfl | rfl | rfl | rfl | rfl | rfl | rfl | rfl | rfl | rfl | rfl | rfl | rfl | rfl | rfl | rfl | rfl | rfl
    all_goals clear h
    all_goals go_enter Tryd.func50, Tryd.ntmps50
    all_goals go_wp2
    all_goals go_ret
    all_goals refine ⟨?_, Hb.out⟩
    all_goals first | rfl | (simp [putsP]; done)
  · have e : putsP ⟨op, a, b⟩ = 1 := by
      unfold putsP
      simp [show ¬ op = 6 by omega, show ¬ op = 14 by omega, show ¬ op = 17 by omega, show ¬ op = 19 by omega, show ¬ op = 22 by omega, show ¬ op = 25 by omega, show ¬ op = 16 by omega, show ¬ op = 18 by omega, show ¬ op = 20 by omega, show ¬ op = 21 by omega]
    rw [e]
    have b0 := out_of h 0 (by omega)
    have b1 := out_of h 1 (by omega)
    have b2 := out_of h 2 (by omega)
    have b3 := out_of h 3 (by omega)
    have b4 := out_of h 4 (by omega)
    have b5 := out_of h 5 (by omega)
    have b6 := out_of h 6 (by omega)
    have b7 := out_of h 7 (by omega)
    have b8 := out_of h 8 (by omega)
    have b9 := out_of h 9 (by omega)
    have b10 := out_of h 10 (by omega)
    have b11 := out_of h 11 (by omega)
    have b12 := out_of h 12 (by omega)
    have b13 := out_of h 13 (by omega)
    have b14 := out_of h 14 (by omega)
    have b15 := out_of h 15 (by omega)
    have b16 := out_of h 16 (by omega)
    have b17 := out_of h 17 (by omega)
    have b18 := out_of h 18 (by omega)
    have b19 := out_of h 19 (by omega)
    have b20 := out_of h 20 (by omega)
    have b21 := out_of h 21 (by omega)
    have b22 := out_of h 22 (by omega)
    have b23 := out_of h 23 (by omega)
    have b24 := out_of h 24 (by omega)
    have b25 := out_of h 25 (by omega)
    clear h e
    go_enter Tryd.func50, Tryd.ntmps50
    go_wp2
    go_ret
    exact ⟨rfl, Hb.out⟩
theorem takes_any (p : Option Addr) (nt cap : Nat) (p' : Option Addr) (fs : List Fn) (cap' : Nat) (x : In) (w : World) (hF : FunsIn w p' fs) (hx : x.op = 13 → 0 ≤ x.a ∧ x.a < fs.length) :
    Calls Tryd.prog 49 #[.agg #[.slice p nt cap, .slice p' fs.length cap'], .agg #[.int .i64 x.op, .int .i64 x.a, .int .i64 x.b]] w fun e w' => e = .returned (.int .i64 (takesP fs x)) ∧ Below w.heap.size w w' := by
  obtain ⟨op, a, b⟩ := x
  have hb := ((Below.refl w.heap.size w).alloc (Nat.le_refl _) (Obj.cells #[Value.slice p nt cap, Value.slice p' fs.length cap'] 25)).alloc (by simp) (Obj.cells #[Value.int IntKind.i64 op, Value.int IntKind.i64 a, Value.int IntKind.i64 b] 47)
  have Hb : Hid _ := hb
  have hfl := hF.len
  clear hb
  by_cases h13 : op = 13
  · subst h13
    obtain ⟨h0, h1⟩ := hx rfl
    simp only at h0 h1
    obtain ⟨k, rfl⟩ : ∃ k : Nat, a = k := ⟨a.toNat, by omega⟩
    have hk : k < fs.length := by omega
    obtain ⟨b2, o2, q2, qc2, rfl, hbw, hfc, _⟩ := hF.get k hk
    have e : takesP fs ⟨13, k, b⟩ = (fs[k]'hk).free := by
      unfold takesP
      simp [hk]
    rw [e]
    have c0 := (Below.cell (p := ⟨b2, o2 + k * 3, none⟩) Hb.out hbw).trans hfc.c0
    have hl := Nat.lt_of_lt_of_le hbw (Below.size Hb.out)
    generalize (fs[k]'hk).free = fr at *
    clear hfc e
    go_enter Tryd.func49, Tryd.ntmps49
    go_wp2
    go_ret
    exact ⟨rfl, Hb.out⟩
  · clear hx
    by_cases h : 0 ≤ op ∧ op ≤ 25
    · rcases ops op h with rfl | rfl | rfl | rfl | rfl | rfl | rfl | rfl | rfl | rfl | rfl | rfl | rfl | rfl | rfl | rfl | rfl | rfl | rfl | rfl | rfl | rfl | rfl | rfl | rfl | rfl
      all_goals clear h
      all_goals first
        | exact absurd rfl h13
        | (go_enter Tryd.func49, Tryd.ntmps49
           go_wp2
           go_ret
           refine ⟨?_, Hb.out⟩
           first | rfl | (simp [takesP]; done))
        | (by_cases h1 : a = 12
           · subst h1
             go_enter Tryd.func49, Tryd.ntmps49
             go_wp2
             go_ret
             exact ⟨rfl, Hb.out⟩
           · by_cases h2 : a = 14
             · subst h2
               go_enter Tryd.func49, Tryd.ntmps49
               go_wp2
               go_ret
               exact ⟨rfl, Hb.out⟩
             · have b1 : (a == 12) = false := by simpa using h1
               have b2 : (a == 14) = false := by simpa using h2
               have e : takesP fs ⟨12, a, b⟩ = 2 := by
                 unfold takesP
                 simp [h1, h2]
               rw [e]
               clear h1 h2 e
               go_enter Tryd.func49, Tryd.ntmps49
               go_wp2
               go_ret
               exact ⟨rfl, Hb.out⟩)
    · have e : takesP fs ⟨op, a, b⟩ = 0 := by
        unfold takesP
        simp [show ¬ op = 6 by omega, show ¬ op = 14 by omega, show ¬ op = 17 by omega, show ¬ op = 19 by omega, show ¬ op = 22 by omega, show ¬ op = 25 by omega, show ¬ op = 8 by omega, show ¬ op = 9 by omega, show ¬ op = 10 by omega, show ¬ op = 7 by omega, show ¬ op = 13 by omega, show ¬ op = 11 by omega, show ¬ op = 15 by omega, show ¬ op = 16 by omega, show ¬ op = 12 by omega]
      rw [e]
      have b0 := out_of h 0 (by omega)
      have b1 := out_of h 1 (by omega)
      have b2 := out_of h 2 (by omega)
      have b3 := out_of h 3 (by omega)
      have b4 := out_of h 4 (by omega)
      have b5 := out_of h 5 (by omega)
      have b6 := out_of h 6 (by omega)
      have b7 := out_of h 7 (by omega)
      have b8 := out_of h 8 (by omega)
      have b9 := out_of h 9 (by omega)
      have b10 := out_of h 10 (by omega)
      have b11 := out_of h 11 (by omega)
      have b12 := out_of h 12 (by omega)
      have b13 := out_of h 13 (by omega)
      have b14 := out_of h 14 (by omega)
      have b15 := out_of h 15 (by omega)
      have b16 := out_of h 16 (by omega)
      have b17 := out_of h 17 (by omega)
      have b18 := out_of h 18 (by omega)
      have b19 := out_of h 19 (by omega)
      have b20 := out_of h 20 (by omega)
      have b21 := out_of h 21 (by omega)
      have b22 := out_of h 22 (by omega)
      have b23 := out_of h 23 (by omega)
      have b24 := out_of h 24 (by omega)
      have b25 := out_of h 25 (by omega)
      clear h e h13
      go_enter Tryd.func49, Tryd.ntmps49
      go_wp2
      go_ret
      exact ⟨rfl, Hb.out⟩
end
end Go.Proofs.YtlekoldicnfeeaaDoor
