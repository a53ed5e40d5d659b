/-
  The program's layer matches: does each value begin with one of the heads (areAll)? The rests of lines (restsBehindAny).
-/
import Derived.Test.YtjhfomfaddfklaaV15
namespace Go.Proofs.Ytjhfomfaddfklaa
open Go.RowKit Go.Deep Go.Shelf
/-- Does each value begin with one of the heads? -/
def areAllL : List Pt → Bool
  | [] => false
  | x :: r => if (bareP x).k = 5 then true else if (bareP x).k = 6 then decide ((cntN (bareP x).o (x :: r) : Int) = (bareP x).o) else false
/-- The rests of the lines that ask for nothing first. -/
def restsL : List (List Pt) → List (List Pt)
  | [] => []
  | l :: m => if (firstL l).isNone = true then l.dropLast :: restsL m else restsL m
theorem restsL_snoc (m : List (List Pt)) (l : List Pt) : restsL (m ++ [l]) = restsL m ++ (if (firstL l).isNone = true then [l.dropLast] else []) := by
  induction m with
  | nil =>
    rw [List.nil_append, restsL]
    split <;> simp_all [restsL]
  | cons y m ih =>
    rw [List.cons_append, restsL, restsL, ih]
    split <;> simp
inductive LinesPost (wb : World) (R : List (List Pt)) (w : World) (e : Ending) (w' : World) : Prop
  | mk (q : Option Addr) (cap : Nat) (he : e = .returned (.slice q R.length cap)) (hR : LinesAt wb w' q R) (hb : Below w.heap.size w w') : LinesPost wb R w e w'
section
set_option maxHeartbeats 8000000
set_option maxRecDepth 100000
theorem restsAny_any (wb w : World) (p : Option Addr) (cap : Nat) (m : List (List Pt)) (hp : LinesAt wb w p m) (hml : m.length ≤ 1000) :
    Calls Try.prog 31 #[.slice p m.length cap] w fun e w' => LinesPost wb (restsL m) w e w' := by
  have Hp : Hid (LinesAt wb w p m) := hp
  clear hp
  go_enter Try.func31, Try.ntmps31
  go_wp2_with fail
  go_loopg [3, 8] m.length (fun g v iv wr => ∃ (i : Nat) (M : List LC) (q : Option Addr) (c : Nat), v = .slice q M.length c ∧ iv = .int .i64 i ∧ i ≤ m.length ∧ g = m.length - i ∧ M.length ≤ i ∧ Hid (OwnL wb wr w.heap.size (.slice q M.length c) M ∧ M.map (·.l) = restsL (m.take i) ∧ Below w.heap.size w wr))
  case atStart => exact ⟨0, [], none, 0, rfl, rfl, by omega, by omega, by simp, OwnL.nil _ _ _, by simp [restsL], Below.refl _ _⟩
  case round =>
    obtain ⟨i, M, q, c, rfl, rfl, hi1, rfl, hLi, HL⟩ := hrel
    obtain ⟨q1, q2, q3⟩ := HL.out
    clear HL
    by_cases hi : i < m.length
    · have hi' : (i : Int) < m.length := by omega
      obtain ⟨b, o, z, zc, rfl, hcell, hzc, hzn, hline⟩ := Hp.out.get i hi
      have hcell' := (q3.cell (p := ⟨b, o + i, none⟩) (World.block_lt_of_cell? _ _ hcell)).trans hcell
      have hbl := World.block_lt_of_cell? _ _ hcell'
      have Htk : Hid (restsL (m.take (i + 1)) = restsL (m.take i) ++ (if (firstL (m[i]'hi)).isNone = true then [(m[i]'hi).dropLast] else [])) := by
        unfold Hid
        rw [List.take_succ_eq_append_getElem hi, restsL_snoc]
      generalize m[i]'hi = r at *
      have Hcall : Hid _ := first_any wb wr z zc r (hline.below q3)
      have Hrest : Hid (Calls Try.prog 32 #[.slice z r.length zc] wr fun e w' => Restl2 wb wr z r e w') := restl_any2 wb wr z zc r (hline.below q3) hzc hzn
      have hold : r.dropLast ≠ [] → ∀ b, z = some b → b.block < w.heap.size := fun hne b hb => hline.lt (fun e => by rw [e] at hne; exact hne rfl) b hb
      have Q1 : Hid (OwnL wb wr w.heap.size (.slice q M.length c) M) := q1
      have Q2 : Hid (M.map (·.l) = restsL (m.take i)) := q2
      have Q3 : Hid (Below w.heap.size w wr) := q3
      clear hcell q1 q2 q3 hzn
      go_upto_region 6 with (go_at_call 27; refine Calls.mono Hcall.out ?_; clear Hcall; rintro e2 w2 (⟨rfl, rfl, hf⟩ | ⟨bx, x, rfl, rfl, hf, hx⟩))
      · rw [hf] at Htk
        simp only [Option.isNone_none, if_true] at Htk
        go_wp2_with fail
        refine Calls.mono Hrest.out ?_
        rintro e9 w3 ⟨z2c, rfl, h2c, _, h2n, h2R, rfl⟩
        clear Hrest
        have hown := Q1.out
        have hsz : w.heap.size ≤ w3.heap.size := Q3.out.size
        have hsep : r.dropLast ≠ [] → ∀ b, z = some b → Value.ownBlock (.slice q M.length c) ≠ some b.block ∧ b.block < w3.heap.size := fun hne b hb => by
          have h1 := hold hne b hb
          exact ⟨fun e => by have := (hown.row.lt _ e).1; omega, by omega⟩
        have hdl : Hid (r.dropLast.length = r.dropLast.length) := rfl
        clear hold hline
        generalize r.dropLast = rd at *
        have hMl : (M.length + 1) * 24 ≤ 140737488355328 := by omega
        go_wp2_with (at_builtin; refine wpList_append_line rfl _ _ rfl hown ⟨z, z2c, rd⟩ h2R h2c h2n hsep hMl hsz rfl rfl ?_)
        intro v7 w7 ho7 hg7
        have hb7 : Below w.heap.size w w7 := by
          have h1 : Below w.heap.size w (w3.alloc (.cells #[LC.val ⟨z, z2c, rd⟩] 41)) := Q3.out.alloc hsz _
          exact h1.trans (grown_below hg7.out (fun k hk => (hown.row.lt k hk).1) h1.size)
        obtain ⟨q7, c7, hv7, _⟩ := own_form ho7.out.row
        subst hv7
        have Q : Hid (OwnL wb w7 w.heap.size (.slice q7 (M ++ [(⟨z, z2c, rd⟩ : LC)]).length c7) (M ++ [(⟨z, z2c, rd⟩ : LC)]) ∧ (M ++ [(⟨z, z2c, rd⟩ : LC)]).map (·.l) = restsL (m.take (i + 1)) ∧ Below w.heap.size w w7) := ⟨ho7.out, by rw [List.map_append, Q2.out, Htk.out]; rfl, hb7⟩
        clear ho7 hg7 hb7 hown h2R hsep Q1 Q2 Q3 Htk
        go_wp2
        go_roundg (m.length - (i + 1))
        case measure => omega
        case rel => exact ⟨i + 1, M ++ [(⟨z, z2c, rd⟩ : LC)], q7, c7, by simp, by first | rfl | (congr 1; omega) | go_num, by omega, rfl, by simp; omega, Q.out⟩
      · rw [hf] at Htk
        simp only [Option.isNone_some, Bool.false_eq_true, if_false, List.append_nil] at Htk
        have Q : Hid (OwnL wb w2 w.heap.size (.slice q M.length c) M ∧ M.map (·.l) = restsL (m.take (i + 1)) ∧ Below w.heap.size w w2) := ⟨Q1.out, by rw [Htk.out]; exact Q2.out, Q3.out⟩
        clear Q1 Q2 Q3 Htk hx Hrest
        go_roundg (m.length - (i + 1))
        case measure => omega
        case rel => exact ⟨i + 1, M, q, c, rfl, by first | rfl | (congr 1; omega) | go_num, by omega, rfl, by omega, Q.out⟩
    · have hi' : ¬ (i : Int) < m.length := by omega
      rw [List.take_of_length_le (by omega)] at q2
      obtain ⟨q', c', hqe, hqc, hlines⟩ := q1.at (by unfold maxLen; omega)
      cases hqe
      have hl : M.length = (restsL m).length := by rw [← q2]; simp
      rw [q2] at hlines
      have Q : Hid (LinesPost wb (restsL m) w (.returned (.slice q M.length c)) wr) := LinesPost.mk q c (by rw [hl]) hlines q3
      clear q1 q2 q3 hlines hl
      go_wp2
      go_ret
      exact Q.out
end
end Go.Proofs.Ytjhfomfaddfklaa
