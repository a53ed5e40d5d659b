/-
  The second reader of types: numbers, the least first.
-/
import Derived.Test.YtbgpjaniohpfaaaP6
import Derived.Deep.CutBlock
import Derived.Deep.QuietTactic
import Derived.BigQuiet
import Derived.Laws.AppendOwnNone
namespace Go.Proofs.Ytbgpjaniohpfaaa
open Go.RowKit
open Go.Proofs.Ytbgpjaniohpfaaa
def put (x : Int) (l : List Int) : List Int := l.takeWhile (fun y => decide (y < x)) ++ [x] ++ l.dropWhile (fun y => decide (y < x))
def risingA : List Int → List Int → List Int
  | o, [] => o
  | o, x :: l => risingA (put x o) l
def rising (l : List Int) : List Int := risingA [] l
theorem put_len (x : Int) (l : List Int) : (put x l).length = l.length + 1 := by
  have := congrArg List.length (List.takeWhile_append_dropWhile (p := fun y => decide (y < x)) (l := l))
  rw [List.length_append] at this
  unfold put
  rw [List.length_append, List.length_append, List.length_singleton]
  omega
theorem front_step {p : Int → Bool} {T : List Int} {k : Nat} (hk : k < T.length) (h : (T.takeWhile p).length = k + ((T.drop k).takeWhile p).length) (hc : p (T[k]'hk) = true) :
    (T.takeWhile p).length = k + 1 + ((T.drop (k + 1)).takeWhile p).length := by
  rw [List.drop_eq_getElem_cons hk, List.takeWhile_cons, if_pos hc, List.length_cons] at h
  omega
theorem front_stop {p : Int → Bool} {T : List Int} {k : Nat} (hk : k < T.length) (h : (T.takeWhile p).length = k + ((T.drop k).takeWhile p).length) (hc : p (T[k]'hk) = false) : (T.takeWhile p).length = k := by
  rw [List.drop_eq_getElem_cons hk, List.takeWhile_cons, if_neg (by rw [hc]; simp), List.length_nil] at h
  omega
theorem owns_keep {w w' : World} {base : Nat} {e : TypeId} {size : Nat} {v : Value} {n : Nat} {xs : List Value} (h : w.ownsRow base e size v n xs) (hb : Below w.heap.size w w') : w'.ownsRow base e size v n xs :=
  h.kept (row := none) ⟨hb.os, hb.tape, hb.output, hb.size, fun k hk _ => hb.block k hk⟩ (by cases hv : v.ownBlock with | none => exact Or.inl rfl | some g => exact Or.inr (by simp))
theorem owns_base {w : World} {base base' : Nat} {e : TypeId} {size : Nat} {v : Value} {n : Nat} {xs : List Value} (h : w.ownsRow base e size v n xs) (hb : base' ≤ base) : w.ownsRow base' e size v n xs := by
  obtain ⟨h1, h2 | ⟨g, cap, cur, h3, h4, h5⟩⟩ := h
  · exact ⟨h1, Or.inl h2⟩
  · exact ⟨h1, Or.inr ⟨g, cap, cur, h3, Nat.le_trans hb h4, h5⟩⟩
/-- A row of numbers: its slice, and its cells. -/
theorem owns_ints {w : World} {base : Nat} {v : Value} {l : List Int} (h : w.ownsRow base 3 1 v l.length (intCells l)) :
    ∃ p cap, v = .slice p l.length cap ∧ l.length ≤ cap ∧ cap ≤ maxLen ∧ ((p = none ∧ cap = 0 ∧ l = []) ∨ ∃ g, p = some ⟨g, 0, none⟩ ∧ g < w.heap.size ∧ base ≤ g ∧ ∀ i (hi : i < l.length), w.cell? ⟨g, i, none⟩ = some (.int .i64 (l[i]'hi))) := by
  have hh := h
  obtain ⟨_, ⟨rfl, hn⟩ | ⟨g, cap, cur, rfl, hbg, hg, hcap, hmx, _⟩⟩ := h
  · exact ⟨none, 0, by rw [hn], by omega, by unfold maxLen; omega, Or.inl ⟨rfl, rfl, List.eq_nil_of_length_eq_zero hn⟩⟩
  · refine ⟨_, _, rfl, hcap, hmx, Or.inr ⟨g, rfl, (hh.lt g rfl).2, hbg, fun i hi => ?_⟩⟩
    have := hh.cellAt i (by omega)
    rw [this]
    simp [intCells, hi]
theorem cells_take {w : World} {g : Nat} {O : List Int} (h : ∀ i (hi : i < O.length), w.cell? ⟨g, i, none⟩ = some (.int .i64 (O[i]'hi))) (K : Nat) :
    ∀ j u, (intCells (O.take K))[j]? = some u → w.cell? ((⟨g, 0, none⟩ : Addr).add j) = some u := by
  intro j u hj
  rw [Go.WideShapes.add_plain, Nat.zero_add]
  unfold intCells at hj
  rw [List.getElem?_map, List.getElem?_take] at hj
  split at hj
  · by_cases hjl : j < O.length
    · rw [List.getElem?_eq_getElem hjl] at hj
      rw [h j hjl]
      exact hj
    · rw [List.getElem?_eq_none (by omega)] at hj
      cases hj
  · cases hj
theorem cells_drop {w : World} {g : Nat} {O : List Int} (h : ∀ i (hi : i < O.length), w.cell? ⟨g, i, none⟩ = some (.int .i64 (O[i]'hi))) (K : Nat) :
    ∀ j u, (intCells (O.drop K))[j]? = some u → w.cell? ((⟨g, K, none⟩ : Addr).add j) = some u := by
  intro j u hj
  rw [Go.WideShapes.add_plain]
  unfold intCells at hj
  rw [List.getElem?_map, List.getElem?_drop] at hj
  by_cases hjl : K + j < O.length
  · rw [List.getElem?_eq_getElem hjl] at hj
    rw [h _ hjl]
    exact hj
  · rw [List.getElem?_eq_none (by omega)] at hj
    cases hj
theorem ints_oneCell (l : List Int) : ∀ u ∈ intCells l, u.oneCell' = true := by
  intro u hu
  unfold intCells at hu
  obtain ⟨x, _, rfl⟩ := List.mem_map.1 hu
  rfl
theorem intCells_append (a b : List Int) : intCells (a ++ b) = intCells a ++ intCells b := by simp [intCells]
theorem intCells_len (a : List Int) : (intCells a).length = a.length := by simp [intCells]
section
set_option maxHeartbeats 2000000
set_option maxRecDepth 100000
theorem rising_any (l : List Int) (v : Value) (base : Nat) (w : World) (hown : w.ownsRow base 3 1 v l.length (intCells l)) (hl : l.length ≤ 1000000000) :
    Calls Try.prog 25 #[v] w fun e w' => ∃ v', e = .returned v' ∧ w'.ownsRow w.heap.size 3 1 v' (rising l).length (intCells (rising l)) ∧ Below w.heap.size w w' := by
  obtain ⟨p, cap, rfl, hcap, hmx, hcells⟩ := owns_ints hown
  have HL : Hid _ := hcells
  clear hcells hown
  unfold maxLen at hmx
  generalize hR : rising l = R
  have HR : Hid (R = risingA [] (l.drop 0)) := hR.symm
  clear hR
  obtain ⟨i0, hi, hz0, hz1, hz2⟩ := info_parts infoP3
  go_enter Try.func25, Try.ntmps25
  go_wp2_with fail
  go_loopw [3, 4] (fun a b wr => ∃ (i : Nat) (O : List Int), b = .int .i64 i ∧ i ≤ l.length ∧ O.length = i ∧ wr.ownsRow w.heap.size 3 1 a O.length (intCells O) ∧ Below w.heap.size w wr ∧ Hid (R = risingA O (l.drop i))) (fun _ b _ => l.length - (intOf b).toNat)
  case atStart => exact ⟨0, [], rfl, by omega, rfl, World.ownsRow_nil _ _ _ _, Below.refl _ _, HR⟩
  case round =>
    clear HR
    rename_i wr
    obtain ⟨i, O, rfl, hi1, hO, hown, hb, Hs⟩ := hrel
    have HO : Hid _ := hO
    have hO1 : O.length ≤ 1000000000 := by omega
    clear hO
    by_cases hlt : i < l.length
    · have hlt' : (i : Int) < l.length := by omega
      obtain hn | ⟨g, rfl, hgw, hbg, hcell⟩ := HL.out
      · exact absurd hlt (by rw [hn.2.2]; exact Nat.not_lt_zero _)
      have hci := hcell i hlt
      rw [← hb.cell (p := ⟨g, i, none⟩) hgw] at hci
      have hgr := Nat.lt_of_lt_of_le hgw hb.size
      have Hs' : Hid (R = risingA (put (l[i]'hlt) O) (l.drop (i + 1))) := by
        unfold Hid
        rw [Hs.out, List.drop_eq_getElem_cons hlt]
        rfl
      generalize (l[i]'hlt) = x at *
      clear Hs hcell
      obtain ⟨p3, cap3, rfl, hcap3, hmx3, hc3⟩ := owns_ints hown
      unfold maxLen at hmx3
      have HC3 : Hid _ := hc3
      clear hc3
      go_upto_block 2 with fail
      go_cut [5] from 13 to 29 (fun a wx => ∃ K : Nat, a = .int .i64 K ∧ K = (O.takeWhile (fun y => decide (y < x))).length ∧ Below wr.heap.size wr wx)
      case first =>
        clear Hs'
        go_wp2_with fail
        go_loopw [5] (fun a wx => ∃ k : Nat, a = .int .i64 k ∧ k ≤ O.length ∧ Below wr.heap.size wr wx ∧ Hid ((O.takeWhile (fun y => decide (y < x))).length = k + ((O.drop k).takeWhile (fun y => decide (y < x))).length)) (fun a _ => O.length - (intOf a).toNat)
        case atStart => exact ⟨0, rfl, by omega, Below.refl _ _, by unfold Hid; simp⟩
        case round =>
          rename World => wx
          obtain ⟨k, rfl, hk, hbx, Hk⟩ := hrel
          have hcix : wx.cell? ⟨g, i, none⟩ = some (.int .i64 x) := (hbx.cell (p := ⟨g, i, none⟩) hgr).trans hci
          have hgx := Nat.lt_of_lt_of_le hgr hbx.size
          by_cases hkl : k < O.length
          · have hkl' : (k : Int) < O.length := by omega
            have hkd := decide_eq_true hkl
            obtain hn | ⟨g3, rfl, hgw3, hbg3, hcell3⟩ := HC3.out
            · exact absurd hkl (by rw [hn.2.2]; exact Nat.not_lt_zero _)
            have hck := hcell3 k hkl
            rw [← hbx.cell (p := ⟨g3, k, none⟩) hgw3] at hck
            have hg3x := Nat.lt_of_lt_of_le hgw3 hbx.size
            cases hd : decide ((O[k]'hkl) < x)
            · have Hf : Hid ((O.takeWhile (fun y => decide (y < x))).length = k) := front_stop hkl Hk.out hd
              generalize O[k] = y at *
              clear Hk hcell3
              go_wp2_with fail
              go_quiet (fail)
              go_wp2
              go_meet
              exact ⟨k, rfl, Hf.out.symm, below_drewN hbx _⟩
            · have Hf : Hid ((O.takeWhile (fun y => decide (y < x))).length = k + 1 + ((O.drop (k + 1)).takeWhile (fun y => decide (y < x))).length) := front_step hkl Hk.out hd
              generalize O[k] = y at *
              clear Hk hcell3
              go_wp2_with fail
              go_quiet (fail)
              go_wp2
              exact ⟨⟨k + 1, by go_num, by omega, below_drewN hbx _, Hf⟩, by simp [intOf]; omega⟩
          · have hkl' : ¬ (k : Int) < O.length := by omega
            have hkd := decide_eq_false hkl
            have Hf : Hid ((O.takeWhile (fun y => decide (y < x))).length = k) := by
              unfold Hid
              rw [Hk.out, List.drop_of_length_le (by omega)]
              rfl
            clear Hk
            go_wp2_with fail
            go_quiet (fail)
            go_wp2
            go_meet
            exact ⟨k, rfl, Hf.out.symm, below_drewN hbx _⟩
      case rest =>
        obtain ⟨K, rfl, hK, hbc⟩ := hcut
        have hcic : wc.cell? ⟨g, i, none⟩ = some (.int .i64 x) := (hbc.cell (p := ⟨g, i, none⟩) hgr).trans hci
        have hgc := Nat.lt_of_lt_of_le hgr hbc.size
        have hKl : K ≤ O.length := by rw [hK]; exact List.Sublist.length_le (List.takeWhile_sublist _)
        have hbwc : Below w.heap.size w wc := hb.trans (hbc.mono hb.size)
        have hput : put x O = O.take K ++ [x] ++ O.drop K := by
          unfold put
          rw [hK]
          congr 1
          · congr 1
            exact List.prefix_iff_eq_take.1 (List.takeWhile_prefix _)
          · have h1 := List.takeWhile_append_dropWhile (p := fun y => decide (y < x)) (l := O)
            have h2 : (O.takeWhile (fun y => decide (y < x)) ++ O.dropWhile (fun y => decide (y < x))).drop (O.takeWhile (fun y => decide (y < x))).length = O.dropWhile (fun y => decide (y < x)) := List.drop_left
            rw [h1] at h2
            exact h2.symm
        have HP : Hid _ := hput
        have HK : Hid _ := hK
        clear hput hK hci hown hb
        obtain hn | ⟨g3, rfl, hgw3, hbg3, hcell3⟩ := HC3.out
        · obtain ⟨rfl, rfl, rfl⟩ := hn
          have hK0 : K = 0 := Nat.le_zero.1 hKl
          subst hK0
          go_upto_region 10 with (at_builtin; refine wpList_append_own_none rfl _ _ 60 rfl wc.heap.size 3 i0 1 Try.underlying60 hi _ _ _ rfl (World.ownsRow_nil _ _ _ _) rfl ?_)
          go_wp2_with (at_builtin; refine wpList_append_own_at _ rfl _ _ 60 rfl wc.heap.size 3 i0 (.int .i64 0) 1 8 Try.underlying60 hi hz0 hz1 hz2 rfl (by decide) _ _ _ rfl ((World.ownsRow_nil wc wc.heap.size 3 1).alloc _) ⟨wc.heap.size, 0, none⟩ 1 1 [.int .i64 x] rfl rfl (cell_new wc (.int .i64 x) 3) (by simp [Value.oneCell']) (by unfold maxLen; omega) (by omega) (by simp) ?_)
          intro m2 w6 hown6 hg6 _ hr6
          have ho7 : Onto wc w6 (.slice none 0 0) m2 := (Onto.of_below ((Below.refl _ _).alloc (Nat.le_refl _) _) _).trans (Onto.append hg6 (by simpa using hr6))
          clear hg6 hr6
          go_wp2_with (at_builtin; refine wpList_append_own_none rfl _ _ 60 rfl wc.heap.size 3 i0 1 Try.underlying60 hi _ _ _ rfl hown6 rfl ?_)
          go_wp2
          exact ⟨⟨i + 1, put x [], by go_num, by omega, by rw [put_len, HO.out], owns_base hown6 hbwc.size, ho7.below hbwc hbwc.size (fun k hk => by simp [Value.ownBlock] at hk), Hs'⟩, by simp [intOf]; omega⟩
        · have hcellc : ∀ i (hi : i < O.length), wc.cell? ⟨g3, i, none⟩ = some (.int .i64 (O[i]'hi)) := fun i hi => (hbc.cell (p := ⟨g3, i, none⟩) hgw3).trans (hcell3 i hi)
          have hg3c := Nat.lt_of_lt_of_le hgw3 hbc.size
          have Hcc : Hid _ := hcellc
          clear hcell3 hcellc
          have htk : (O.take K).length = K := by rw [List.length_take]; omega
          have Htk : Hid _ := htk
          clear htk
          go_wp2_with (at_builtin; refine wpList_append_own_at _ rfl _ _ 60 rfl wc.heap.size 3 i0 (.int .i64 0) 1 8 Try.underlying60 hi hz0 hz1 hz2 rfl (by decide) _ _ _ rfl (World.ownsRow_nil _ _ _ _) ⟨g3, 0, none⟩ K cap3 (intCells (O.take K)) rfl (by rw [intCells_len, Htk.out]; omega) (cells_take Hcc.out K) (ints_oneCell _) (by unfold maxLen; omega) (by omega) (Nat.le_refl _) ?_)
          intro m1 w5 hown5 hg5 _ hr5
          have ho5 : Onto wc w5 (.slice none 0 0) m1 := Onto.append hg5 hr5
          have hci5 := hg5.cell hcic (by simp [Value.ownBlock])
          have hgc5 := Nat.lt_of_lt_of_le hgc hg5.size
          clear hg5 hr5
          go_wp2_with (at_builtin; refine wpList_append_own_at _ rfl _ _ 60 rfl wc.heap.size 3 i0 (.int .i64 0) 1 8 Try.underlying60 hi hz0 hz1 hz2 rfl (by decide) _ _ _ rfl (hown5.alloc _) ⟨w5.heap.size, 0, none⟩ 1 1 [.int .i64 x] rfl rfl (cell_new w5 (.int .i64 x) 3) (by simp [Value.oneCell']) (by unfold maxLen; omega) (by omega) (by have := ho5.grown.size; simp; omega) ?_)
          intro m2 w6 hown6 hg6 _ hr6
          have ho6 : Onto wc w6 (.slice none 0 0) m2 := ho5.trans ((Onto.of_below ((Below.refl _ _).alloc (Nat.le_refl _) _) m1).trans (Onto.append hg6 (by simpa using hr6)))
          have hcc6 : ∀ i (hi : i < O.length), w6.cell? ⟨g3, i, none⟩ = some (.int .i64 (O[i]'hi)) := fun i hi => ho6.cell (Hcc.out i hi) (by simp [Value.ownBlock])
          have Hc6 : Hid _ := hcc6
          clear hg6 hr6 hcc6 ho5 hci5
          by_cases hcK : cap3 = K
          · have hOK : O.length - K = 0 := by omega
            go_wp2_with (at_builtin; refine wpList_append_own_at _ rfl _ _ 60 rfl wc.heap.size 3 i0 (.int .i64 0) 1 8 Try.underlying60 hi hz0 hz1 hz2 rfl (by decide) _ _ _ rfl hown6 ⟨g3, 0, none⟩ 0 0 [] rfl rfl (fun j u h => by simp at h) (fun u h => by simp at h) (by unfold maxLen; omega) (by omega) (by have := ho6.grown.size; omega) ?_)
            intro m3 w7 hown7 hg7 _ hr7
            have ho7 : Onto wc w7 (.slice none 0 0) m3 := ho6.trans (Onto.append hg7 hr7)
            clear hg7 hr7
            go_wp2
            refine ⟨⟨i + 1, put x O, by go_num, by omega, by rw [put_len, HO.out], ?_, ho7.below hbwc hbwc.size (fun k hk => by simp [Value.ownBlock] at hk), Hs'⟩, by simp [intOf]; omega⟩
            have e1 : (put x O).length = K + 1 := by rw [put_len]; omega
            have e2 : intCells (put x O) = intCells (O.take K) ++ [Value.int .i64 x] := by rw [HP.out, intCells_append, intCells_append, List.drop_of_length_le (by omega), List.append_assoc]; rfl
            rw [e1, e2]
            exact owns_base hown7 hbwc.size
          · go_wp2_with (at_builtin; refine wpList_append_own_at _ rfl _ _ 60 rfl wc.heap.size 3 i0 (.int .i64 0) 1 8 Try.underlying60 hi hz0 hz1 hz2 rfl (by decide) _ _ _ rfl hown6 ⟨g3, K, none⟩ (O.length - K) (cap3 - K) (intCells (O.drop K)) rfl (by rw [intCells_len, List.length_drop]; omega) (cells_drop Hc6.out K) (ints_oneCell _) (by unfold maxLen; omega) (by omega) (by have := ho6.grown.size; omega) ?_)
            intro m3 w7 hown7 hg7 _ hr7
            have ho7 : Onto wc w7 (.slice none 0 0) m3 := ho6.trans (Onto.append hg7 hr7)
            clear hg7 hr7
            go_wp2
            refine ⟨⟨i + 1, put x O, by go_num, by omega, by rw [put_len, HO.out], ?_, ho7.below hbwc hbwc.size (fun k hk => by simp [Value.ownBlock] at hk), Hs'⟩, by simp [intOf]; omega⟩
            have e1 : (put x O).length = K + 1 + (O.length - K) := by rw [put_len]; omega
            have e2 : intCells (put x O) = intCells (O.take K) ++ Value.int .i64 x :: intCells (O.drop K) := by rw [HP.out, intCells_append, intCells_append, List.append_assoc]; rfl
            rw [e1, e2]
            exact owns_base hown7 hbwc.size
    · have hlt' : ¬ (i : Int) < l.length := by omega
      have Hs' : Hid (R = O) := by
        unfold Hid
        rw [Hs.out, List.drop_of_length_le (by omega)]
        rfl
      clear Hs
      go_wp2
      go_ret
      refine ⟨_, rfl, ?_, hb⟩
      rw [Hs'.out]
      exact hown
end
end Go.Proofs.Ytbgpjaniohpfaaa
