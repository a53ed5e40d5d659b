/-
  The law's example: what Solve answers of it.
-/
import Derived.Test.YtbgpjaniohpfaaaK20
import Derived.Test.YtbgpjaniohpfaaaP21
namespace Go.Proofs.Ytbgpjaniohpfaaa
open Go.RowKit Go.Deep
def bT : Ty := .mk 1 0 { data := #[98, 111, 111, 108] } 2 []
def iT : Ty := .mk 1 0 { data := #[105, 110, 116] } 2 []
def exPs : List (Ty × Ty) := [(exA, exB)]
theorem ex_marks : allMarks exPs 1 = 0 ∧ allMarks exPs 2 = 0 := by constructor <;> rfl
theorem ex_uni : ∃ s1, Uni (St.start exPs) exPs 0 s1 ∧ s1.sub 1 = bT ∧ s1.sub 2 = iT := by
  refine ⟨⟨bindF (bindF Ty.vr 1 bT) 2 iT, allMarks exPs⟩, Uni.into _ _ _ _ _ [(Ty.vr 1, bT), (iT, Ty.vr 2)] _ ?_ (Uni.go _ ⟨bindF Ty.vr 1 bT, allMarks exPs⟩ _ _ _ _ _ ?_ (Uni.go _ _ _ _ _ _ _ ?_ (Uni.done _))), ?_, ?_⟩
  · rfl
  · rfl
  · rfl
  · rfl
  · rfl
theorem ex_vars : allVars exPs = [1, 2] := rfl
theorem ex_proper : ∀ p ∈ exPs, p.1.proper = true ∧ p.2.proper = true := by
  intro p hp
  obtain rfl : p = (exA, exB) := by simpa [exPs] using hp
  constructor <;> rfl
theorem ex_sort : ([1, 2] : List Int).mergeSort leI = [1, 2] := by
  refine List.mergeSort_of_pairwise ?_
  simp
theorem PairCells.below {w w' : World} {b o : Nat} {pr : Ty × Ty} (h : PairCells w b o pr) (hb : b < w.heap.size) (hw : Below w.heap.size w w') : PairCells w' b o pr := by
  cases h with
  | mk k n s e l q cap1 k' n' s' e' l' q' cap' c0 c1 c2 c3 c4 c5 c6 c7 c8 c9 hA hB =>
    exact PairCells.mk k n s e l q cap1 k' n' s' e' l' q' cap' ((hw.cell (p := ⟨b, o, none⟩) hb).trans c0) ((hw.cell (p := ⟨b, o + 1, none⟩) hb).trans c1) ((hw.cell (p := ⟨b, o + 2, none⟩) hb).trans c2) ((hw.cell (p := ⟨b, o + 3, none⟩) hb).trans c3) ((hw.cell (p := ⟨b, o + 4, none⟩) hb).trans c4) ((hw.cell (p := ⟨b, o + 5, none⟩) hb).trans c5) ((hw.cell (p := ⟨b, o + 6, none⟩) hb).trans c6) ((hw.cell (p := ⟨b, o + 7, none⟩) hb).trans c7) ((hw.cell (p := ⟨b, o + 8, none⟩) hb).trans c8) ((hw.cell (p := ⟨b, o + 9, none⟩) hb).trans c9) (hA.keep hw) (hB.keep hw)
theorem PairsIn.below {w w' : World} {p : Option Addr} {ps : List (Ty × Ty)} (h : PairsIn w p ps) (hw : Below w.heap.size w w') : PairsIn w' p ps :=
  ⟨h.len, fun i hi => by
    obtain ⟨b, o, h1, h2, h3⟩ := h.get i hi
    exact ⟨b, o, h1, Nat.lt_of_lt_of_le h2 hw.size, h3.below h2 hw⟩⟩
theorem BindsRow.below {w w' : World} {p : Option Addr} {Bs : List (Int × Ty)} (h : BindsRow w p Bs) (hw : Below w.heap.size w w') : BindsRow w' p Bs :=
  ⟨h.len, fun i hi => by
    obtain ⟨b, o, h1, h2, h3⟩ := h.get i hi
    refine ⟨b, o, h1, Nat.lt_of_lt_of_le h2 hw.size, ?_⟩
    generalize Bs[i]'hi = pr at *
    cases h3 with
    | mk x k n s e l q cap1 c0 c1 c2 c3 c4 c5 hT =>
      exact BindCells.mk x k n s e l q cap1 ((hw.cell (p := ⟨b, o + i * 6, none⟩) h2).trans c0) ((hw.cell (p := ⟨b, o + i * 6 + 1, none⟩) h2).trans c1) ((hw.cell (p := ⟨b, o + i * 6 + 2, none⟩) h2).trans c2) ((hw.cell (p := ⟨b, o + i * 6 + 3, none⟩) h2).trans c3) ((hw.cell (p := ⟨b, o + i * 6 + 4, none⟩) h2).trans c4) ((hw.cell (p := ⟨b, o + i * 6 + 5, none⟩) h2).trans c5) (hT.keep hw)⟩
theorem ex_solve (w : World) (p : Option Addr) (cap : Nat) (hP : PairsIn w p exPs) :
    Calls Try.prog 7 #[.slice p 1 cap] w fun e' w' => ∃ b o cap', e' = .returned (.tuple #[.slice (some ⟨b, o, none⟩) 2 cap', .agg #[.int .i64 0, .int .i64 0]]) ∧ Below w.heap.size w w' ∧ b < w'.heap.size ∧ w'.cell? ⟨b, o + 3, none⟩ = some (.string { data := #[98, 111, 111, 108] }) ∧ w'.cell? ⟨b, o + 9, none⟩ = some (.string { data := #[105, 110, 116] }) := by
  refine (solve_any w p cap exPs hP (by decide)).mono ?_
  intro e' w' h
  obtain ⟨s1, hu, h1, h2⟩ := ex_uni
  cases h with
  | arg h =>
    cases h with
    | bad i hi h1 h2 he hb => exact absurd (ex_proper _ (List.getElem_mem hi)) h2
  | fail i hi t1 t2 e hp g1 g2 h0 he hb =>
    exfalso
    have hi0 : i = 0 := by simp [exPs] at hi; omega
    subst hi0
    have := g1.then rfl g2
    exact h0 ((hu.det this).1).symm
  | big t1 x hp g1 hx g2 he hb =>
    exfalso
    obtain rfl := (hu.det g1).2
    rw [ex_vars] at hx
    have : x = 1 ∨ x = 2 := by simpa using hx
    rcases this with rfl | rfl
    · rw [h1] at g2; exact absurd g2 (by decide)
    · rw [h2] at g2; exact absurd g2 (by decide)
  | ok t1 v L hp g1 hc hL he ho hT hb =>
    obtain rfl := (hu.det g1).2
    obtain ⟨pv, cv, rfl, hrow⟩ := binds_row ho hT
    rw [ex_vars, ex_sort] at hL
    have hL2 : L.map (fun x => (x.1, x.2.2)) = [(1, bT), (2, iT)] := by
      rw [hL]
      simp only [List.map_cons, List.map_nil, h1, h2]
      rfl
    rw [hL2] at he hrow
    obtain ⟨b, o, rfl, hb0, hc0⟩ := hrow.get 0 (by simp)
    obtain ⟨b', o', hp', _, hc1⟩ := hrow.get 1 (by simp)
    obtain ⟨rfl, rfl⟩ : b = b' ∧ o = o' := by simpa using hp'
    refine ⟨b, o, cv, he, hb, hb0, ?_, ?_⟩
    · have : BindCells w' b (o + 0 * 6) (1, bT) := hc0
      unfold bT at this
      cases this with
      | mk x k n s e l q cap1 c0 c1 c2 c3 c4 c5 hT => simpa using c3
    · have : BindCells w' b (o + 1 * 6) (2, iT) := hc1
      unfold iT at this
      cases this with
      | mk x k n s e l q cap1 c0 c1 c2 c3 c4 c5 hT => simpa [Nat.add_assoc] using c3
theorem ex_pairs {w : World} {g ga gb : Nat} (hg : g < w.heap.size) (hc : ∀ j, j < 10 → w.cell? ⟨g, j, none⟩ = [Value.int .i64 3, .int .i64 0, .string { data := #[] }, .int .i64 0, .slice (some ⟨ga, 0, none⟩) 2 2, .int .i64 3, .int .i64 0, .string { data := #[] }, .int .i64 0, .slice (some ⟨gb, 0, none⟩) 2 2][j]?)
    (hA : TyIn w [.int .i64 3, .int .i64 0, .string { data := #[] }, .int .i64 0, .slice (some ⟨ga, 0, none⟩) 2 2] exA) (hB : TyIn w [.int .i64 3, .int .i64 0, .string { data := #[] }, .int .i64 0, .slice (some ⟨gb, 0, none⟩) 2 2] exB) : PairsIn w (some ⟨g, 0, none⟩) exPs := by
  refine ⟨by simp [exPs], fun i hi => ⟨g, 0, rfl, hg, ?_⟩⟩
  have hi0 : i = 0 := by simp [exPs] at hi; omega
  subst hi0
  exact PairCells.mk 3 0 { data := #[] } 0 [.mk 0 1 { data := #[] } 0 [], .mk 1 0 { data := #[105, 110, 116] } 2 []] (some ⟨ga, 0, none⟩) 2 3 0 { data := #[] } 0 [.mk 1 0 { data := #[98, 111, 111, 108] } 2 [], .mk 0 2 { data := #[] } 0 []] (some ⟨gb, 0, none⟩) 2 (hc 0 (by omega)) (hc 1 (by omega)) (hc 2 (by omega)) (hc 3 (by omega)) (hc 4 (by omega)) (hc 5 (by omega)) (hc 6 (by omega)) (hc 7 (by omega)) (hc 8 (by omega)) (hc 9 (by omega)) hA hB
end Go.Proofs.Ytbgpjaniohpfaaa
