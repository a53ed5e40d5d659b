/-
  The program's layer matches: is a line useful behind a head (usefulBehind)?
-/
import Derived.Test.YtjhfomfaddfklaaPU
namespace Go.Proofs.Ytjhfomfaddfklaa
open Go.RowKit Go.Deep Go.Shelf
/-- What useful answers of these lines. -/
def UseOk (m : List (List Pt)) (own : List Pt) (b : Bool) : Prop := ∀ (wb w : World) (p : Option Addr) (cap : Nat) (p' : Option Addr) (cap' : Nat), Below wb.heap.size wb w → LinesAt wb w p m → LineAt wb w p' own → own.length ≤ cap' → (p' = none → cap' = 0) → Calls Try.prog 15 #[.slice p m.length cap, .slice p' own.length cap'] w fun e w' => e = .returned (.bool b) ∧ Below w.heap.size w w'
section
set_option maxHeartbeats 8000000
set_option maxRecDepth 100000
theorem useBehind_any (m : List (List Pt)) (own : List Pt) (h : Hd) (b : Bool) (hs : Sm m own) (hm : h.m ≤ 1000) (hu : UseOk (behindsL h m) (ownL h own) b) (wb w : World) (p : Option Addr) (cap : Nat) (p' : Option Addr) (cap' : Nat) (hw : Below wb.heap.size wb w) (hp : LinesAt wb w p m) (hp' : LineAt wb w p' own) (hc' : own.length ≤ cap') (hn' : p' = none → cap' = 0) :
    Calls Try.prog 28 #[h.val, .slice p m.length cap, .slice p' own.length cap'] w fun e w' => e = .returned (.bool b) ∧ Below w.heap.size w w' := by
  have hbx := hbox_new w h
  have hba : Below w.heap.size w (w.alloc (.cells #[.int .i64 h.k, .int .i64 h.n, .string h.s, .int .i64 h.m] 59)) := (Below.refl _ _).alloc (Nat.le_refl _) _
  have hwa : Below wb.heap.size wb (w.alloc (.cells #[.int .i64 h.k, .int .i64 h.n, .string h.s, .int .i64 h.m] 59)) := hw.trans (hba.mono hw.size)
  have Hhv : Hid (h.val = .agg #[.int .i64 h.k, .int .i64 h.n, .string h.s, .int .i64 h.m]) := rfl
  obtain ⟨k, n, s, mm⟩ := h
  simp only [Hd.val] at *
  have Hbx : Hid (HBox (w.alloc (.cells #[.int .i64 k, .int .i64 n, .string s, .int .i64 mm] 59)) w.heap.size ⟨k, n, s, mm⟩) := hbx
  have Hba : Hid (Below w.heap.size w (w.alloc (.cells #[.int .i64 k, .int .i64 n, .string s, .int .i64 mm] 59))) := hba
  have Hwa : Hid (Below wb.heap.size wb (w.alloc (.cells #[.int .i64 k, .int .i64 n, .string s, .int .i64 mm] 59))) := hwa
  have Hp : Hid (LinesAt wb (w.alloc (.cells #[.int .i64 k, .int .i64 n, .string s, .int .i64 mm] 59)) p m) := hp.below hba
  have Hp' : Hid (LineAt wb (w.alloc (.cells #[.int .i64 k, .int .i64 n, .string s, .int .i64 mm] 59)) p' own) := hp'.below hba
  have Hs : Hid (Sm m own) := hs
  have Hu : Hid (UseOk (behindsL ⟨k, n, s, mm⟩ m) (ownL ⟨k, n, s, mm⟩ own) b) := hu
  have Hn' : Hid (p' = none → cap' = 0) := hn'
  have hml := hs.cnt
  clear hbx hba hwa hp hp' hs hu hw hn' Hhv
  go_enter Try.func28, Try.ntmps28
  go_wp2_with fail
  generalize w.alloc (.cells #[.int .i64 k, .int .i64 n, .string s, .int .i64 mm] 59) = W1 at *
  go_loopg [7, 14] m.length (fun g v iv wr => ∃ (i : Nat) (M : List LC) (q : Option Addr) (c : Nat), v = .slice q M.length c ∧ iv = .int .i64 i ∧ i ≤ m.length ∧ g = m.length - i ∧ M.length ≤ i ∧ Hid (OwnL wb wr W1.heap.size (.slice q M.length c) M ∧ M.map (·.l) = behindsL ⟨k, n, s, mm⟩ (m.take i) ∧ Below W1.heap.size W1 wr))
  case atStart => exact ⟨0, [], none, 0, rfl, rfl, by omega, by omega, by simp, OwnL.nil _ _ _, by simp [behindsL], Below.refl _ _⟩
  case round =>
    obtain ⟨i, M, q, c, rfl, rfl, hi1, rfl, hLi, HL⟩ := hrel
    obtain ⟨q1, q2, q3⟩ := HL.out
    clear HL
    have hwr : Below wb.heap.size wb wr := Below.trans Hwa.out (q3.mono Hwa.out.size)
    obtain ⟨g0, g1, g2, g3, g4⟩ := (HBox.below Hbx.out q3).cells
    simp only at g0 g1 g2 g3
    by_cases hi : i < m.length
    · have hi' : (i : Int) < m.length := by omega
      obtain ⟨b2, o, z, zc, rfl, hcell, hzc, hzn, hline⟩ := Hp.out.get i hi
      have hcell' := (q3.cell (p := ⟨b2, o + i, none⟩) (World.block_lt_of_cell? _ _ hcell)).trans hcell
      have hbl := World.block_lt_of_cell? _ _ hcell'
      have Htk : Hid (behindsL ⟨k, n, s, mm⟩ (m.take (i + 1)) = behindsL ⟨k, n, s, mm⟩ (m.take i) ++ bOne (behindL (m[i]'hi) ⟨k, n, s, mm⟩)) := by
        unfold Hid
        rw [List.take_succ_eq_append_getElem hi, behindsL_snoc]
      obtain ⟨r1, r2⟩ := Hs.out.rows _ (List.getElem_mem hi)
      generalize m[i]'hi = r at *
      have hold : r ≠ [] → ∀ b, z = some b → b.block < W1.heap.size := fun hne b hb => hline.lt hne b hb
      have Hcall : Hid (Calls Try.prog 42 #[.slice z r.length zc, .agg #[.int .i64 k, .int .i64 n, .string s, .int .i64 mm]] wr fun e w' => BehindPost wb wr z r ⟨k, n, s, mm⟩ e w') := behind_any wb wr z zc r ⟨k, n, s, mm⟩ hwr (hline.below q3) hzc hzn r1 hm r2
      have Q1 : Hid (OwnL wb wr W1.heap.size (.slice q M.length c) M) := q1
      have Q2 : Hid (M.map (·.l) = behindsL ⟨k, n, s, mm⟩ (m.take i)) := q2
      have Q3 : Hid (Below W1.heap.size W1 wr) := q3
      clear hcell hline q1 q2 q3 hzn r1 r2 hwr
      go_upto_region 7 with (go_at_call 42; refine Calls.mono Hcall.out ?_; clear Hcall; rintro e2 w2 (⟨l', q2, c2, hbl', rfl, h2c, h2n, h2R, h2b, h2q⟩ | ⟨hbl', rfl, h2b⟩))
      · rw [hbl'] at Htk
        simp only [bOne] at Htk
        have hown := OwnL.below Q1.out h2b
        have hsz : W1.heap.size ≤ w2.heap.size := Nat.le_trans Q3.out.size h2b.size
        have hrne : l' ≠ [] → r ≠ [] := fun hne e => by
          rw [e] at hbl'
          have : behindL [] ⟨k, n, s, mm⟩ = some [] := rfl
          rw [this] at hbl'
          cases hbl'
          exact hne rfl
        have hsep : l' ≠ [] → ∀ b, q2 = some b → Value.ownBlock (.slice q M.length c) ≠ some b.block ∧ b.block < w2.heap.size := fun hne b hb => by
          refine ⟨fun e => ?_, h2R.lt hne b hb⟩
          have ho := Q1.out.row.lt _ e
          rcases h2q hne b hb with ⟨a, ha, hab⟩ | hge
          · have := hold (hrne hne) a ha
            omega
          · omega
        have Q3' : Hid (Below W1.heap.size W1 w2) := Q3.out.trans (h2b.mono Q3.out.size)
        have hMl : (M.length + 1) * 24 ≤ 140737488355328 := by omega
        clear hold h2q hbl' hrne h2b
        go_wp2_with (at_builtin; refine wpList_append_line rfl _ _ rfl hown ⟨q2, c2, l'⟩ h2R h2c h2n hsep hMl hsz rfl rfl ?_)
        intro v7 w7 ho7 hg7
        have hb7 : Below W1.heap.size W1 w7 := by
          have h1 : Below W1.heap.size W1 (w2.alloc (.cells #[LC.val ⟨q2, c2, l'⟩] 41)) := Q3'.out.alloc hsz _
          exact h1.trans (grown_below hg7.out (fun k hk => (hown.row.lt k hk).1) h1.size)
        obtain ⟨q7, c7, hv7, _⟩ := own_form ho7.out.row
        subst hv7
        have Q : Hid (OwnL wb w7 W1.heap.size (.slice q7 (M ++ [(⟨q2, c2, l'⟩ : LC)]).length c7) (M ++ [(⟨q2, c2, l'⟩ : LC)]) ∧ (M ++ [(⟨q2, c2, l'⟩ : LC)]).map (·.l) = behindsL ⟨k, n, s, mm⟩ (m.take (i + 1)) ∧ Below W1.heap.size W1 w7) := ⟨ho7.out, by rw [List.map_append, Q2.out, Htk.out]; rfl, hb7⟩
        clear ho7 hg7 hb7 hown h2R hsep Q1 Q2 Q3 Q3' Htk
        go_wp2
        go_roundg (m.length - (i + 1))
        case measure => omega
        case rel => exact ⟨i + 1, M ++ [(⟨q2, c2, l'⟩ : LC)], q7, c7, by simp, by first | rfl | (congr 1; omega) | go_num, by omega, rfl, by simp; omega, Q.out⟩
      · rw [hbl'] at Htk
        simp only [bOne, List.append_nil] at Htk
        have Q : Hid (OwnL wb w2 W1.heap.size (.slice q M.length c) M ∧ M.map (·.l) = behindsL ⟨k, n, s, mm⟩ (m.take (i + 1)) ∧ Below W1.heap.size W1 w2) := ⟨OwnL.below Q1.out h2b, by rw [Htk.out]; exact Q2.out, Q3.out.trans (h2b.mono Q3.out.size)⟩
        clear Q1 Q2 Q3 Htk h2b hold hbl'
        go_roundg (m.length - (i + 1))
        case measure => omega
        case rel => exact ⟨i + 1, M, q, c, rfl, by first | rfl | (congr 1; omega) | go_num, by omega, rfl, by omega, Q.out⟩
    · have hi' : ¬ (i : Int) < m.length := by omega
      rw [List.take_of_length_le (by omega)] at q2
      have hl : M.length = (behindsL ⟨k, n, s, mm⟩ m).length := by rw [← q2]; simp
      have Hcall : Hid (Calls Try.prog 42 #[.slice p' own.length cap', .agg #[.int .i64 k, .int .i64 n, .string s, .int .i64 mm]] wr fun e w' => BehindPost wb wr p' own ⟨k, n, s, mm⟩ e w') := behind_any wb wr p' cap' own ⟨k, n, s, mm⟩ hwr (Hp'.out.below q3) hc' Hn'.out Hs.out.own.1 hm Hs.out.own.2
      have Hfin : Hid (∀ w3 q3' c3, Below wr.heap.size wr w3 → LineAt wb w3 q3' (ownL ⟨k, n, s, mm⟩ own) → (ownL ⟨k, n, s, mm⟩ own).length ≤ c3 → (q3' = none → c3 = 0) → Calls Try.prog 15 #[.slice q M.length c, .slice q3' (ownL ⟨k, n, s, mm⟩ own).length c3] w3 fun e w' => e = .returned (.bool b) ∧ Below w.heap.size w w') := fun w3 q3' c3 h3 hl3 hc3 hn3 => by
        have hown3 := q1.below h3
        obtain ⟨q', c', hqe, hqc, hlines⟩ := hown3.at (by unfold maxLen; omega)
        cases hqe
        rw [q2] at hlines
        have := Hu.out wb w3 q c q3' c3 (hwr.trans (h3.mono hwr.size)) hlines hl3 hc3 hn3
        rw [hl]
        refine Calls.mono this ?_
        rintro e w4 ⟨rfl, h4⟩
        have h13 : Below w.heap.size w w3 := Below.trans Hba.out ((q3.trans (h3.mono q3.size)).mono Hba.out.size)
        exact ⟨rfl, h13.trans (h4.mono h13.size)⟩
      clear q1 q2 q3 hl hwr Hu
      go_upto_region 10 with (go_at_call 42; refine Calls.mono Hcall.out ?_; clear Hcall; rintro e2 w2 (⟨l', q2, c2, hbl', rfl, h2c, h2n, h2R, h2b, h2q⟩ | ⟨hbl', rfl, h2b⟩))
      · have he : ownL ⟨k, n, s, mm⟩ own = l' := by unfold ownL; rw [hbl']; rfl
        rw [he] at Hfin
        have Hc15 : Hid (Calls Try.prog 15 #[.slice q M.length c, .slice q2 l'.length c2] w2 fun e w' => e = .returned (.bool b) ∧ Below w.heap.size w w') := Hfin.out w2 q2 c2 h2b h2R h2c h2n
        clear Hfin h2R h2b h2q he hbl'
        go_wp2_with fail
        refine Calls.mono Hc15.out ?_
        rintro e5 w5 ⟨rfl, h5⟩
        clear Hc15
        go_wp2
        go_ret
        exact ⟨rfl, h5⟩
      · have he : ownL ⟨k, n, s, mm⟩ own = [] := by unfold ownL; rw [hbl']; rfl
        rw [he] at Hfin
        have Hc15 : Hid (Calls Try.prog 15 #[.slice q M.length c, .slice none 0 0] w2 fun e w' => e = .returned (.bool b) ∧ Below w.heap.size w w') := Hfin.out w2 none 0 h2b (LineAt.nil _ _ _) (Nat.zero_le _) (fun _ => rfl)
        clear Hfin h2b he hbl'
        go_wp2_with fail
        refine Calls.mono Hc15.out ?_
        rintro e5 w5 ⟨rfl, h5⟩
        clear Hc15
        go_wp2
        go_ret
        exact ⟨rfl, h5⟩
end
end Go.Proofs.Ytjhfomfaddfklaa
