/-
  The solver as it lies in memory; what a variable stands for, looked up.
-/
import Derived.Test.YtbgpjaniohpfaaaK1
import Derived.WalkKit
import Derived.RegionTactic
import Derived.BigRegion
namespace Go.Proofs.Ytbgpjaniohpfaaa
open Go.RowKit Go.Deep
/-- What is said of every type that lies in memory, besides its shape: it is said of its arguments, too, and of a bare variable. -/
structure Marks where
  P : Ty → Prop
  arg : ∀ (k n : Int) (s : ByteArray) (e : Int) (l : List Ty) (i : Nat) (hi : i < l.length), P (.mk k n s e l) → P (l[i]'hi)
  bare : ∀ n, P (.mk 0 n { data := #[] } 0 [])
def Ty.okm (μ : Marks) (T : Ty) : Prop := T.shaped = true ∧ μ.P T
/-- Nothing is said. -/
def noMarks : Marks := ⟨fun _ => True, fun _ _ _ _ _ _ _ _ => trivial, fun _ => trivial⟩
theorem okm_no (T : Ty) : T.okm noMarks ↔ T.shaped = true := ⟨fun h => h.1, fun h => ⟨h, trivial⟩⟩
variable {μ : Marks}
theorem zero33 (w : World) : (zeroValue 33).run Try.prog w = .ok (.agg #[.int .i64 0, .int .i64 0, .string { data := #[] }, .int .i64 0, .slice none 0 0]) w := by kernel_rfl
theorem zero3 (w : World) : (zeroValue 3).run Try.prog w = .ok (.int .i64 0) w := by kernel_rfl
theorem map49 : Try.prog.underlying 49 = some (.map 3 33) := by kernel_rfl
theorem map51 : Try.prog.underlying 51 = some (.map 3 3) := by kernel_rfl
/-- The five cells of a type. -/
def zc : List Value := [.int .i64 0, .int .i64 0, .string { data := #[] }, .int .i64 0, .slice none 0 0]
/-- What variables stand for, as it lies in memory: the map in one world, the types in an earlier one. -/
def StandsAt (μ : Marks) (wb w : World) (b n : Nat) (M : Int → Option Ty) : Prop :=
  (∃ F, MapAt w b n F ∧ ∀ x, (M x = none ∧ F x = none) ∨ ∃ T cs, M x = some T ∧ F x = some (.agg cs.toArray) ∧ TyIn wb cs T ∧ T.okm μ) ∧ ∃ V : List Int, V.length ≤ n ∧ ∀ x, (M x).isSome = true → x ∈ V
theorem StandsAt.kp {X : List Nat} {wb w w' : World} {b n : Nat} {M : Int → Option Ty} (h : StandsAt μ wb w b n M) (hk : Kp X w w') (hb : b ∉ X) : StandsAt μ wb w' b n M := by
  obtain ⟨⟨F, h1, h2⟩, h3⟩ := h
  exact ⟨⟨F, h1.kp hk hb, h2⟩, h3⟩
theorem StandsAt.lt {wb w : World} {b n : Nat} {M : Int → Option Ty} (h : StandsAt μ wb w b n M) : b < w.heap.size := let ⟨⟨_, h1, _⟩, _⟩ := h; h1.lt
theorem shaped_wf {w : World} {k n : Int} {s : ByteArray} {e : Int} {l : List Ty} {cs : List Value} (h : TyIn w cs (.mk k n s e l)) : (Lit.int .i64 k).wf = true ∧ (Lit.int .i64 n).wf = true ∧ (Lit.int .i64 e).wf = true := by
  cases h with
  | mk _ _ _ _ _ _ _ _ _ _ hp hw hc hr => exact ⟨hw.1, hw.2.1, hw.2.2.1⟩
set_option maxHeartbeats 1000000 in
set_option maxRecDepth 100000 in
theorem follow_any (wb w : World) (sp bM n : Nat) (M : Int → Option Ty) (k m : Int) (s : ByteArray) (e : Int) (l : List Ty) (p : Option Addr) (cap : Nat)
    (hs : w.cell? ⟨sp, 0, none⟩ = some (.map (some bM))) (hM : StandsAt μ wb w bM n M) (hwf : (Lit.int .i64 m).wf = true) :
    Calls Try.prog 49 #[.pointer (some ⟨sp, 0, none⟩), .agg #[.int .i64 k, .int .i64 m, .string s, .int .i64 e, .slice p l.length cap]] w fun e w' => Below w.heap.size w w' ∧
      ((e = .returned (.tuple #[.agg zc.toArray, .bool false]) ∧ ¬ (k = 0 ∧ (M m).isSome = true)) ∨ ∃ T cs, k = 0 ∧ M m = some T ∧ e = .returned (.tuple #[.agg cs.toArray, .bool true]) ∧ TyIn wb cs T ∧ T.okm μ) := by
  obtain ⟨⟨F, hF, hFM⟩, -⟩ := hM
  have hlook := fun (w' : World) (hk : Kp [] w w') => (hF.kp hk (by simp)).lookOk map49 zero33 hwf
  have hlt := hF.lt
  have hsp := World.block_lt_of_cell? _ _ hs
  clear hF
  by_cases hk : k = 0
  · subst hk
    have hA := (Kp.refl [] w).trans (Kp.alloc [] w (Obj.cells #[Value.int IntKind.i64 0, Value.int IntKind.i64 m, Value.string s, Value.int IntKind.i64 e, Value.slice p l.length cap] 33))
    have hB := hA.trans (Kp.alloc [] _ (Obj.cells #[Value.int IntKind.i64 0, Value.int IntKind.i64 0, Value.string { data := #[] }, Value.int IntKind.i64 0, Value.slice none 0 0] 33))
    have hC := hB.trans (Kp.alloc [] _ (Obj.cells #[Value.int IntKind.i64 0, Value.int IntKind.i64 0, Value.string { data := #[] }, Value.int IntKind.i64 0, Value.slice none 0 0] 33))
    have hl1 := hlook _ hB.drew
    have hl2 := hlook _ hC.drew
    have hs1 := hB.cell hs (by simp)
    have hs2 := hC.cell hs (by simp)
    clear hlook hA hB hC
    rcases hFM m with ⟨h1, h2⟩ | ⟨T, cs, h1, h2, h3, h4⟩
    · rw [h2] at hl1 hl2
      have Hm : Hid (M m = none) := h1
      clear h1 h2 hFM
      simp only [Option.getD_none, Option.isSome_none] at hl1 hl2
      go_enter Try.func49, Try.ntmps49
      go_wp2_with fail
      go_region
      all_goals go_wp2
      all_goals refine bodyPost_ret (v := .tuple #[.agg zc.toArray, .bool false]) (by simp [results, Try.results49, go_sem, zc]) rfl ⟨?_, .inl ⟨rfl, by rw [Hm.out]; simp⟩⟩
      all_goals exact ((((Below.refl _ _).alloc (Nat.le_refl _) _).alloc (by simp) _).alloc (by simp; omega) _).drew
    · cases T with
      | mk k' n' s' e' l' =>
        obtain ⟨p', cap', rfl, _⟩ := h3.elem
        rw [h2] at hl1 hl2
        have Hm : Hid (M m = some (Ty.mk k' n' s' e' l')) := h1
        have H3 : Hid _ := h3
        have H4 : Hid _ := h4
        clear h1 h2 h3 h4 hFM
        simp only [Option.getD_some, Option.isSome_some, List.toArray] at hl1 hl2
        go_enter Try.func49, Try.ntmps49
        go_wp2_with fail
        go_region
        all_goals go_wp2
        all_goals refine bodyPost_ret (v := .tuple #[.agg #[.int .i64 k', .int .i64 n', .string s', .int .i64 e', .slice p' l'.length cap'], .bool true]) (by simp [results, Try.results49, go_sem]) rfl ⟨?_, .inr ⟨_, _, trivial, Hm.out, rfl, H3.out, H4.out⟩⟩
        all_goals exact ((((Below.refl _ _).alloc (Nat.le_refl _) _).alloc (by simp) _).alloc (by simp; omega) _).drew
  · have hk' : (k != 0) = true := by simpa using hk
    have Hk : Hid (¬ k = 0) := hk
    clear hk
    go_enter Try.func49, Try.ntmps49
    go_wp2
    refine bodyPost_ret (v := .tuple #[.agg zc.toArray, .bool false]) (by simp [results, Try.results49, go_sem, zc]) rfl ⟨?_, .inl ⟨rfl, by intro h; first | exact Hk.out h.1 | exact absurd h Hk.out⟩⟩
    exact ((Below.refl _ _).alloc (Nat.le_refl _) _).alloc (by simp) _
end Go.Proofs.Ytbgpjaniohpfaaa
