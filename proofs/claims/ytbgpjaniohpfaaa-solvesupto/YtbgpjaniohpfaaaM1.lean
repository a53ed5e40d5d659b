/-
  What every type of some pairs says of its variables is no more than what the pairs' marks say; Same, which asks nothing of what was asked before.
-/
import Derived.Test.YtbgpjaniohpfaaaS3
namespace Go.Proofs.Ytbgpjaniohpfaaa
open Go.RowKit Go.Deep
mutual
/-- A type says of its variables no more than some marks. -/
def Ty.low (q : Int → Int) : Ty → Bool
  | .mk k n _ e l => (decide (¬ k = 0) || decide (e ≤ q n) || decide (e ≤ 0)) && Ty.lowL q l
def Ty.lowL (q : Int → Int) : List Ty → Bool
  | [] => true
  | a :: l => Ty.low q a && Ty.lowL q l
end
theorem Ty.lowL_get (q : Int → Int) : ∀ (l : List Ty), Ty.lowL q l = true → ∀ i (hi : i < l.length), (l[i]'hi).low q = true
  | [], _, i, hi => absurd hi (Nat.not_lt_zero _)
  | a :: l, h, i, hi => by
    unfold Ty.lowL at h
    rw [Bool.and_eq_true] at h
    cases i with
    | zero => exact h.1
    | succ i => exact Ty.lowL_get q l h.2 i (by simpa using hi)
mutual
theorem Ty.low_mono {q q' : Int → Int} (hq : ∀ n, q n ≤ q' n) : ∀ T : Ty, T.low q = true → T.low q' = true
  | .mk k n s e l => by
    unfold Ty.low
    intro h
    rw [Bool.and_eq_true] at h ⊢
    refine ⟨?_, Ty.lowL_mono hq l h.2⟩
    have h1 := h.1
    have h2 := hq n
    simp only [Bool.or_eq_true, decide_eq_true_eq] at h1 ⊢
    omega
theorem Ty.lowL_mono {q q' : Int → Int} (hq : ∀ n, q n ≤ q' n) : ∀ l : List Ty, Ty.lowL q l = true → Ty.lowL q' l = true
  | [] => fun h => h
  | a :: l => by
    unfold Ty.lowL
    intro h
    rw [Bool.and_eq_true] at h ⊢
    exact ⟨Ty.low_mono hq a h.1, Ty.lowL_mono hq l h.2⟩
end
mutual
theorem Ty.marks_ge : ∀ (T : Ty) (q : Int → Int) (n : Int), q n ≤ T.marks q n
  | .mk k m s e l, q, n => by
    unfold Ty.marks
    split
    · by_cases hn : n = m
      · subst hn; rw [upd_same]; omega
      · rw [upd_other _ _ hn]; omega
    · exact Ty.marksL_ge l q n
theorem Ty.marksL_ge : ∀ (l : List Ty) (q : Int → Int) (n : Int), q n ≤ Ty.marksL l q n
  | [], q, n => by unfold Ty.marksL; omega
  | a :: l, q, n => by
    unfold Ty.marksL
    exact Int.le_trans (Ty.marks_ge a q n) (Ty.marksL_ge l _ n)
end
mutual
theorem Ty.marks_low : ∀ (T : Ty) (q : Int → Int), T.shaped = true → T.low (T.marks q) = true
  | .mk k m s e l, q, hs => by
    by_cases hk : k = 0
    · have hl : l = [] := by
        unfold Ty.shaped at hs
        rw [if_pos hk] at hs
        simp at hs
        exact hs.1.1.1.1
      subst hl
      unfold Ty.low Ty.marks
      rw [if_pos hk, upd_same]
      unfold Ty.lowL
      simp only [Bool.and_true, Bool.or_eq_true, decide_eq_true_eq]
      omega
    · unfold Ty.low Ty.marks
      rw [if_neg hk, Bool.and_eq_true]
      refine ⟨by simp [hk], Ty.marksL_low l q ?_⟩
      intro i hi
      exact shaped_arg hs i hi
theorem Ty.marksL_low : ∀ (l : List Ty) (q : Int → Int), (∀ i (hi : i < l.length), (l[i]'hi).shaped = true) → Ty.lowL (Ty.marksL l q) l = true
  | [], q, _ => by unfold Ty.lowL; rfl
  | a :: l, q, hs => by
    unfold Ty.lowL Ty.marksL
    rw [Bool.and_eq_true]
    exact ⟨Ty.low_mono (Ty.marksL_ge l _) a (Ty.marks_low a q (hs 0 (by simp))), Ty.marksL_low l _ (fun i hi => hs (i + 1) (by simpa using hi))⟩
end
theorem low_all : ∀ ps : List (Ty × Ty), (∀ p ∈ ps, p.1.shaped = true ∧ p.2.shaped = true) → ∀ p ∈ ps, p.1.low (allMarks ps) = true ∧ p.2.low (allMarks ps) = true := by
  refine rev_ind ?_ ?_
  · intro _ p hp; cases hp
  · intro ps p ih hs r hr
    rw [allMarks_snoc]
    have hg : ∀ n, allMarks ps n ≤ p.2.marks (p.1.marks (allMarks ps)) n := fun n => Int.le_trans (Ty.marks_ge p.1 _ n) (Ty.marks_ge p.2 _ n)
    rcases List.mem_append.1 hr with hr | hr
    · obtain ⟨h1, h2⟩ := ih (fun p hp => hs p (List.mem_append_left _ hp)) r hr
      exact ⟨Ty.low_mono hg _ h1, Ty.low_mono hg _ h2⟩
    · obtain rfl : r = p := by simpa using hr
      obtain ⟨h1, h2⟩ := hs r (by simp)
      exact ⟨Ty.low_mono (Ty.marks_ge r.2 _) _ (Ty.marks_low r.1 _ h1), Ty.marks_low r.2 _ h2⟩
/-- Of pairs: no more is said of variables than what their marks say. -/
def marksOf (q : Int → Int) : Marks := ⟨fun T => T.low q = true, fun k n s e l i hi h => by
  unfold Ty.low at h
  rw [Bool.and_eq_true] at h
  exact Ty.lowL_get q l h.2 i hi, fun n => by
  unfold Ty.low Ty.lowL
  simp⟩
theorem low_start {q : Int → Int} (h : ∀ n, 0 ≤ q n) : ∀ m s e l, (Ty.mk 0 m s e l).okm (marksOf q) → e ≤ q m := by
  intro m s e l ho
  have h1 : (Ty.mk 0 m s e l).low q = true := ho.2
  unfold Ty.low at h1
  rw [Bool.and_eq_true] at h1
  have h2 := h1.1
  have h3 := h m
  simp at h2
  omega
variable {μ : Marks}
theorem SamePost.back {gr : Int} {wb : World} {sp bM bQ n nq : Nat} {V : List Int} {w w2 : World} {f : Int → Ty} {q : Int → Int} {a b : Ty} {r : Ending} {w' : World} (h : SamePost μ wb sp bM bQ n nq V w2 f q a b gr r w') (hk : Kp [bM, bQ, sp] w w2) : SamePost μ wb sp bM bQ n nq V w f q a b gr r w' := by
  cases h with
  | fail e s1 hu h0 he hk' hb => exact SamePost.fail e s1 hu h0 he (hk.trans hk') hb
  | ok s1 n1 M1 g1 hu he hS hB hn hk' hG hg => exact SamePost.ok s1 n1 M1 g1 hu he hS hB hn (hk.trans hk') hG hg
set_option maxHeartbeats 4000000 in
set_option maxRecDepth 100000 in
theorem sameW_any (wb : World) (sp bM bQ nq : Nat) (V : List Int) (w : World) (n : Nat) (M : Int → Option Ty) (f : Int → Ty) (q : Int → Int) (k m : Int) (s : ByteArray) (e : Int) (l : List Ty) (p : Option Addr) (cap : Nat) (k' m' : Int) (s' : ByteArray) (e' : Int) (l' : List Ty) (p' : Option Addr) (cap' : Nat) (gr : Int) (hG : SolBox w sp bM bQ gr) (hg : 0 ≤ gr ∧ gr ≤ n)
    (hS : Sq μ wb w sp bM bQ n nq M f q V) (hB : Bal n M V) (hT : TyIn wb [.int .i64 k, .int .i64 m, .string s, .int .i64 e, .slice p l.length cap] (.mk k m s e l)) (hsh : (Ty.mk k m s e l).okm μ) (hV : ∀ y, ((Ty.mk k m s e l).app f).hasV y = true → V.contains y = true)
    (hT' : TyIn wb [.int .i64 k', .int .i64 m', .string s', .int .i64 e', .slice p' l'.length cap'] (.mk k' m' s' e' l')) (hsh' : (Ty.mk k' m' s' e' l').okm μ) (hV' : ∀ y, ((Ty.mk k' m' s' e' l').app f).hasV y = true → V.contains y = true) :
    Calls Try.prog 17 #[.pointer (some ⟨sp, 0, none⟩), .agg #[.int .i64 k, .int .i64 m, .string s, .int .i64 e, .slice p l.length cap], .agg #[.int .i64 k', .int .i64 m', .string s', .int .i64 e', .slice p' l'.length cap']] w fun r w' =>
      SamePost μ wb sp bM bQ n nq V w f q (.mk k m s e l) (.mk k' m' s' e' l') gr r w' := by
  have hlt := hS.lt
  have hk2 : Kp [] w ((w.alloc (Obj.cells #[Value.int IntKind.i64 k, Value.int IntKind.i64 m, Value.string s, Value.int IntKind.i64 e, Value.slice p l.length cap] 33)).alloc (Obj.cells #[Value.int IntKind.i64 k', Value.int IntKind.i64 m', Value.string s', Value.int IntKind.i64 e', Value.slice p' l'.length cap'] 33)) := (Kp.alloc _ _ _).trans (Kp.alloc _ _ _)
  have hcall := same_any wb sp bM bQ nq V _ _ n M f q k m s e l p cap k' m' s' e' l' p' cap' (-1) gr (hG.kp hk2 (by simp)) hg (hS.kp hk2 (by simp)) hB hT hsh hV hT' hsh' hV' (fun h => by omega) (Nat.lt_succ_self _)
  have Hcall : Hid _ := hcall
  have HK2 : Hid (Kp [bM, bQ, sp] w _) := hk2.mono (Y := [bM, bQ, sp]) (by simp)
  clear hcall hS hB hT hsh hV hT' hsh' hV' hG hk2
  go_enter Try.func17, Try.ntmps17
  go_wp2_with fail
  refine Calls.mono Hcall.out ?_
  rintro e10 w7 hp
  obtain ⟨ev, rfl⟩ := hp.ret
  have Hp : Hid _ := hp.back HK2.out
  clear hp Hcall HK2
  go_wp2
  go_ret
  exact Hp.out
end Go.Proofs.Ytbgpjaniohpfaaa
