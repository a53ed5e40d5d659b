/-
  The program's layer matches: is a line useful behind a head (usefulBehind)?
-/
import Derived.Test.YtjhfomfaddfklaaMA
namespace Go.Proofs.Ytjhfomfaddfklaa
open Go.RowKit Go.Deep Go.Shelf
/-- What useful answers of these lines. -/
def UseOk (m : List (List Pt)) (own : List Pt) (b : Bool) : Prop := ∀ (wb w : World) (p : Option Addr) (cap : Nat) (p' : Option Addr) (cap' : Nat), Below wb.heap.size wb w → LinesAt wb w p m → LineAt wb w p' own → own.length ≤ cap' → (p' = none → cap' = 0) → Calls Try.prog 15 #[.slice p m.length cap, .slice p' own.length cap'] w fun e w' => e = .returned (.bool b) ∧ Below w.heap.size w w'
section
set_option maxHeartbeats 8000000
set_option maxRecDepth 100000
theorem useBehind_any (m : List (List Pt)) (own : List Pt) (h : Hd) (b : Bool) (hs : Sm m own) (hm : h.m ≤ 1000) (hu : UseOk (behindsL h m) (ownL h own) b) (wb w : World) (p : Option Addr) (cap : Nat) (p' : Option Addr) (cap' : Nat) (hw : Below wb.heap.size wb w) (hp : LinesAt wb w p m) (hp' : LineAt wb w p' own) (hc' : own.length ≤ cap') (hn' : p' = none → cap' = 0) :
    Calls Try.prog 28 #[h.val, .slice p m.length cap, .slice p' own.length cap'] w fun e w' => e = .returned (.bool b) ∧ Below w.heap.size w w' := by
  have hbx := hbox_new w h
  have hba : Below w.heap.size w (w.alloc (.cells #[.int .i64 h.k, .int .i64 h.n, .string h.s, .int .i64 h.m] 59)) := (Below.refl _ _).alloc (Nat.le_refl _) _
  have hwa : Below wb.heap.size wb (w.alloc (.cells #[.int .i64 h.k, .int .i64 h.n, .string h.s, .int .i64 h.m] 59)) := hw.trans (hba.mono hw.size)
  have Hhv : Hid (h.val = .agg #[.int .i64 h.k, .int .i64 h.n, .string h.s, .int .i64 h.m]) := rfl
  obtain ⟨k, n, s, mm⟩ := h
  simp only [Hd.val] at *
  have Hbx : Hid (HBox (w.alloc (.cells #[.int .i64 k, .int .i64 n, .string s, .int .i64 mm] 59)) w.heap.size ⟨k, n, s, mm⟩) := hbx
  have Hba : Hid (Below w.heap.size w (w.alloc (.cells #[.int .i64 k, .int .i64 n, .string s, .int .i64 mm] 59))) := hba
  have Hwa : Hid (Below wb.heap.size wb (w.alloc (.cells #[.int .i64 k, .int .i64 n, .string s, .int .i64 mm] 59))) := hwa
  have Hp : Hid (LinesAt wb (w.alloc (.cells #[.int .i64 k, .int .i64 n, .string s, .int .i64 mm] 59)) p m) := hp.below hba
  have Hp' : Hid (LineAt wb (w.alloc (.cells #[.int .i64 k, .int .i64 n, .string s, .int .i64 mm] 59)) p' own) := hp'.below hba
  have Hs : Hid (Sm m own) := hs
  have Hu : Hid (UseOk (behindsL ⟨k, n, s, mm⟩ m) (ownL ⟨k, n, s, mm⟩ own) b) := hu
  have Hn' : Hid (p' = none → cap' = 0) := hn'
  have hml := hs.cnt
  clear hbx hba hwa hp hp' hs hu hw hn' Hhv
  go_enter Try.func28, Try.ntmps28
  go_wp2_with fail
  generalize w.alloc (.cells #[.int .i64 k, .int .i64 n, .string s, .int .i64 mm] 59) = W1 at *
  go_loopg [7, 14] m.length (fun g v iv wr => ∃ (i : Nat) (M : List LC) (q : Option Addr) (c : Nat), v = .slice q M.length c ∧ iv = .int .i64 i ∧ i ≤ m.length ∧ g = m.length - i ∧ M.length ≤ i ∧ Hid (OwnL wb wr W1.heap.size (.slice q M.length c) M ∧ M.map (·.l) = behindsL ⟨k, n, s, mm⟩ (m.take i) ∧ Below W1.heap.size W1 wr))
  case atStart => exact ⟨0, [], none, 0, rfl, rfl, by omega, by omega, by simp, OwnL.nil _ _ _, by simp [behindsL], Below.refl _ _⟩
  case round =>
    obtain ⟨i, M, q, c, rfl, rfl, hi1, rfl, hLi, HL⟩ := hrel
    obtain ⟨q1, q2, q3⟩ := HL.out
    clear HL
    have hwr : Below wb.heap.size wb wr := Below.trans Hwa.out (q3.mono Hwa.out.size)
    obtain ⟨g0, g1, g2, g3, g4⟩ := (HBox.below Hbx.out q3).cells
    simp only at g0 g1 g2 g3
    by_cases hi : i < m.length
    · have hi' : (i : Int) < m.length := by omega
      obtain ⟨b2, o, z, zc, rfl, hcell, hzc, hzn, hline⟩ := Hp.out.get i hi
      have hcell' := (q3.cell (p := ⟨b2, o + i, none⟩) (World.block_lt_of_cell? _ _ hcell)).trans hcell
      have hbl := World.block_lt_of_cell? _ _ hcell'
      have Htk : Hid (behindsL ⟨k, n, s, mm⟩ (m.take (i + 1)) = behindsL ⟨k, n, s, mm⟩ (m.take i) ++ bOne (behindL (m[i]'hi) ⟨k, n, s, mm⟩)) := by
        unfold Hid
        rw [List.take_succ_eq_append_getElem hi, behindsL_snoc]
      obtain ⟨r1, r2⟩ := Hs.out.rows _ (List.getElem_mem hi)
      generalize m[i]'hi = r at *
      have hold : r ≠ [] → ∀ b, z = some b → b.block < W1.heap.size := fun hne b hb => hline.lt hne b hb
      have Hcall : Hid (Calls Try.prog 42 #[.slice z r.length zc, .agg #[.int .i64 k, .int .i64 n, .string s, .int .i64 mm]] wr fun e w' => BehindPost wb wr z r ⟨k, n, s, mm⟩ e w') := behind_any wb wr z zc r ⟨k, n, s, mm⟩ hwr (hline.below q3) hzc hzn r1 hm r2
      have Q1 : Hid (OwnL wb wr W1.heap.size (.slice q M.length c) M) := q1
      have Q2 : Hid (M.map (·.l) = behindsL ⟨k, n, s, mm⟩ (m.take i)) := q2
      have Q3 : Hid (Below W1.heap.size W1 wr) := q3
      clear hcell hline q1 q2 q3 hzn r1 r2 hwr
      go_upto_region 7 with (go_at_call 42; refine Calls.mono Hcall.out ?_; clear Hcall; rintro e2 w2 (⟨l', q2, c2, hbl', rfl, h2c, h2n, h2R, h2b, h2q⟩ | ⟨hbl', rfl, h2b⟩))
      · rw [hbl'] at Htk
        simp only [bOne] at Htk
        have hown := OwnL.below Q1.out h2b
        have hsz : W1.heap.size ≤ w2.heap.size := Nat.le_trans Q3.out.size h2b.size
        have hrne : l' ≠ [] → r ≠ [] := fun hne e => by
          rw [e] at hbl'
          have : behindL [] ⟨k, n, s, mm⟩ = some [] := rfl
          rw [this] at hbl'
          cases hbl'
          exact hne rfl
        have hsep : l' ≠ [] → ∀ b, q2 = some b → Value.ownBlock (.slice q M.length c) ≠ some b.block ∧ b.block < w2.heap.size := fun hne b hb => by
          refine ⟨fun e => ?_, h2R.lt hne b hb⟩
          have ho := Q1.out.row.lt _ e
          rcases h2q hne b hb with ⟨a, ha, hab⟩ | hge
          · have := hold (hrne hne) a ha
            omega
          · omega
        have Q3' : Hid (Below W1.heap.size W1 w2) := Q3.out.trans (h2b.mono Q3.out.size)
        have hMl : (M.length + 1) * 24 ≤ 140737488355328 := by omega
        clear hold h2q hbl' hrne h2b
        go_wp2_with (at_builtin; refine wpList_append_line rfl _ _ rfl hown ⟨q2, c2, l'⟩ h2R h2c h2n hsep hMl hsz rfl rfl ?_)
        intro v7 w7 ho7 hg7
        have hb7 : Below W1.heap.size W1 w7 := by
          have h1 : Below W1.heap.size W1 (w2.alloc (.cells #[LC.val ⟨q2, c2, l'⟩] 41)) := Q3'.out.alloc hsz _
          exact h1.trans (grown_below hg7.out (fun k hk => (hown.row.lt k hk).1) h1.size)
        obtain ⟨q7, c7, hv7, _⟩ := own_form ho7.out.row
        subst hv7
        have Q : Hid (OwnL wb w7 W1.heap.size (.slice q7 (M ++ [(⟨q2, c2, l'⟩ : LC)]).length c7) (M ++ [(⟨q2, c2, l'⟩ : LC)]) ∧ (M ++ [(⟨q2, c2, l'⟩ : LC)]).map (·.l) = behindsL ⟨k, n, s, mm⟩ (m.take (i + 1)) ∧ Below W1.heap.size W1 w7) := ⟨ho7.out, by rw [List.map_append, Q2.out, Htk.out]; rfl, hb7⟩
        clear ho7 hg7 hb7 hown h2R hsep Q1 Q2 Q3 Q3' Htk
        go_wp2
        go_roundg (m.length - (i + 1))
        case measure => omega
        case rel => exact ⟨i + 1, M ++ [(⟨q2, c2, l'⟩ : LC)], q7, c7, by simp, by first | rfl | (congr 1; omega) | go_num, by omega, rfl, by simp; omega, Q.out⟩
      · rw [hbl'] at Htk
        simp only [bOne, List.append_nil] at Htk
        have Q : Hid (OwnL wb w2 W1.heap.size (.slice q M.length c) M ∧ M.map (·.l) = behindsL ⟨k, n, s, mm⟩ (m.take (i + 1)) ∧ Below W1.heap.size W1 w2) := ⟨OwnL.below Q1.out h2b, by rw [Htk.out]; exact Q2.out, Q3.out.trans (h2b.mono Q3.out.size)⟩
        clear Q1 Q2 Q3 Htk h2b hold hbl'
        go_roundg (m.length - (i + 1))
        case measure => omega
        case rel => exact ⟨i + 1, M, q, c, rfl, by first | rfl | (congr 1; omega) | go_num, by omega, rfl, by omega, Q.out⟩
    · have hi' : ¬ (i : Int) < m.length := by omega
      rw [List.take_of_length_le (by omega)] at q2
      have hl : M.length = (behindsL ⟨k, n, s, mm⟩ m).length := by rw [← q2]; simp
      have Hcall : Hid (Calls Try.prog 42 #[.slice p' own.length cap', .agg #[.int .i64 k, .int .i64 n, .string s, .int .i64 mm]] wr fun e w' => BehindPost wb wr p' own ⟨k, n, s, mm⟩ e w') := behind_any wb wr p' cap' own ⟨k, n, s, mm⟩ hwr (Hp'.out.below q3) hc' Hn'.out Hs.out.own.1 hm Hs.out.own.2
      have Hfin : Hid (∀ w3 q3' c3, Below wr.heap.size wr w3 → LineAt wb w3 q3' (ownL ⟨k, n, s, mm⟩ own) → (ownL ⟨k, n, s, mm⟩ own).length ≤ c3 → (q3' = none → c3 = 0) → Calls Try.prog 15 #[.slice q M.length c, .slice q3' (ownL ⟨k, n, s, mm⟩ own).length c3] w3 fun e w' => e = .returned (.bool b) ∧ Below w.heap.size w w') := fun w3 q3' c3 h3 hl3 hc3 hn3 => by
        have hown3 := q1.below h3
        obtain ⟨q', c', hqe, hqc, hlines⟩ := hown3.at (by unfold maxLen; omega)
        cases hqe
        rw [q2] at hlines
        have := Hu.out wb w3 q c q3' c3 (hwr.trans (h3.mono hwr.size)) hlines hl3 hc3 hn3
        rw [hl]
        refine Calls.mono this ?_
        rintro e w4 ⟨rfl, h4⟩
        have h13 : Below w.heap.size w w3 := Below.trans Hba.out ((q3.trans (h3.mono q3.size)).mono Hba.out.size)
        exact ⟨rfl, h13.trans (h4.mono h13.size)⟩
      clear q1 q2 q3 hl hwr Hu
      go_upto_region 10 with (go_at_call 42; refine Calls.mono Hcall.out ?_; clear Hcall; rintro e2 w2 (⟨l', q2, c2, hbl', rfl, h2c, h2n, h2R, h2b, h2q⟩ | ⟨hbl', rfl, h2b⟩))
      · have he : ownL ⟨k, n, s, mm⟩ own = l' := by unfold ownL; rw [hbl']; rfl
        rw [he] at Hfin
        have Hc15 : Hid (Calls Try.prog 15 #[.slice q M.length c, .slice q2 l'.length c2] w2 fun e w' => e = .returned (.bool b) ∧ Below w.heap.size w w') := Hfin.out w2 q2 c2 h2b h2R h2c h2n
        clear Hfin h2R h2b h2q he hbl'
        go_wp2_with fail
        refine Calls.mono Hc15.out ?_
        rintro e5 w5 ⟨rfl, h5⟩
        clear Hc15
        go_wp2
        go_ret
        exact ⟨rfl, h5⟩
      · have he : ownL ⟨k, n, s, mm⟩ own = [] := by unfold ownL; rw [hbl']; rfl
        rw [he] at Hfin
        have Hc15 : Hid (Calls Try.prog 15 #[.slice q M.length c, .slice none 0 0] w2 fun e w' => e = .returned (.bool b) ∧ Below w.heap.size w w') := Hfin.out w2 none 0 h2b (LineAt.nil _ _ _) (Nat.zero_le _) (fun _ => rfl)
        clear Hfin h2b he hbl'
        go_wp2_with fail
        refine Calls.mono Hc15.out ?_
        rintro e5 w5 ⟨rfl, h5⟩
        clear Hc15
        go_wp2
        go_ret
        exact ⟨rfl, h5⟩
end
end Go.Proofs.Ytjhfomfaddfklaa
namespace Go.Proofs.Ytjhfomfaddfklaa
open Go.RowKit Go.Deep Go.Shelf
section
set_option maxHeartbeats 8000000
set_option maxRecDepth 100000
theorem kids_m {x : Pt} (h : x.good = true) : (hdOf x).m ≤ 1000 := (good_kids (good_bare x h)).1
theorem use_none (own : List Pt) : UseOk [] own true := by
  intro wb w p cap p' cap' hw hp hp' hc' hn'
  have hb := Below.refl w.heap.size w
  clear hw hp hp' hn'
  simp only [List.length_nil]
  go_enter Try.func15, Try.ntmps15
  go_wp2
  go_ret
  exact ⟨rfl, hb⟩
theorem use_all (m : List (List Pt)) (own : List Pt) (hn : hasNil m = true) : UseOk m own false := by
  intro wb w p cap p' cap' hw hp hp' hc' hn'
  have hm : m.length ≠ 0 := fun e => by
    have : m = [] := List.eq_nil_of_length_eq_zero e
    rw [this] at hn
    cases hn
  have hmb : ((m.length : Int) == 0) = false := by rw [beq_eq_false_iff_ne]; omega
  have Hc : Hid (Calls Try.prog 25 #[.slice p m.length cap, .func (.func 26) #[] #[]] w fun e w' => e = .returned (.bool true) ∧ Below w.heap.size w w') := by
    have := contains_lines wb w p cap m hp
    rw [hn] at this
    exact this
  clear hw hp hp' hn' hn hm
  go_enter Try.func15, Try.ntmps15
  go_wp2_with fail
  refine Calls.mono Hc.out ?_
  rintro e1 w1 ⟨rfl, h1⟩
  clear Hc
  go_wp2
  go_ret
  exact ⟨rfl, h1⟩
theorem use_head (m : List (List Pt)) (own : List Pt) (x : Pt) (b : Bool) (hs : Sm m own) (h0 : m ≠ []) (hn : hasNil m = false) (hf : firstL own = some x) (hu : UseOk (behindsL (hdOf x) m) (ownL (hdOf x) own) b) : UseOk m own b := by
  intro wb w p cap p' cap' hw hp hp' hc' hn'
  obtain ⟨hxm, hxk⟩ := firstL_some hf
  have hxg := hs.own.2 x hxm
  have hmb : ((m.length : Int) == 0) = false := by
    rw [beq_eq_false_iff_ne]
    have : m.length ≠ 0 := fun e => h0 (List.eq_nil_of_length_eq_zero e)
    omega
  have Hc : Hid (Calls Try.prog 25 #[.slice p m.length cap, .func (.func 26) #[] #[]] w fun e w' => e = .returned (.bool false) ∧ Below w.heap.size w w') := by
    have := contains_lines wb w p cap m hp
    rw [hn] at this
    exact this
  have Hfirst : Hid (∀ w1, Below w.heap.size w w1 → Calls Try.prog 27 #[.slice p' own.length cap'] w1 fun e w' => FirstPost wb w1 own e w') := fun w1 h1 => first_any wb w1 p' cap' own (hp'.below h1)
  have Hcells : Hid (∀ w1 b2, Below w.heap.size w w1 → PrtIn wb (some ⟨b2, 0, none⟩) x → ∃ p cap, w1.cell? ⟨b2, 0, none⟩ = some (.int .i64 (bareP x).k) ∧ w1.cell? ⟨b2, 1, none⟩ = some (.int .i64 (hnum (bareP x))) ∧ w1.cell? ⟨b2, 2, none⟩ = some (.string (htxt (bareP x))) ∧ w1.cell? ⟨b2, 3, none⟩ = some (.int .i64 (bareP x).kids.length) ∧ w1.cell? ⟨b2, 4, none⟩ = some (.int .i64 (bareP x).o) ∧ w1.cell? ⟨b2, 5, none⟩ = some (.slice p (bareP x).kids.length cap) ∧ b2 < w1.heap.size) := fun w1 b2 h1 hx => hx.cells hxk (hw.trans (h1.mono hw.size))
  have Hbeh : Hid (∀ w1, Below w.heap.size w w1 → Calls Try.prog 28 #[.agg #[.int .i64 (bareP x).k, .int .i64 (hnum (bareP x)), .string (htxt (bareP x)), .int .i64 (bareP x).kids.length], .slice p m.length cap, .slice p' own.length cap'] w1 fun e w' => e = .returned (.bool b) ∧ Below w1.heap.size w1 w') := fun w1 h1 => useBehind_any m own (hdOf x) b hs (kids_m hxg) hu wb w1 p cap p' cap' (hw.trans (h1.mono hw.size)) (hp.below h1) (hp'.below h1) hc' hn'
  have Hf : Hid (firstL own = some x) := hf
  clear hw hp hp' hn' hn h0 hs hu hf hxg hxm
  go_enter Try.func15, Try.ntmps15
  go_wp2_with fail
  refine Calls.mono Hc.out ?_
  rintro e1 w1 ⟨rfl, h1⟩
  clear Hc
  go_wp2_with fail
  refine Calls.mono (Hfirst.out w1 h1) ?_
  clear Hfirst
  rintro e2 w2 (⟨rfl, rfl, hf⟩ | ⟨b2, y, rfl, rfl, hf, hy⟩)
  · rw [Hf.out] at hf
    cases hf
  · rw [Hf.out] at hf
    cases hf
    obtain ⟨px, cx, f0, f1, f2, f3, f4, f5, f6⟩ := Hcells.out w2 b2 h1 hy
    have Hb2 : Hid (Calls Try.prog 28 #[.agg #[.int .i64 (bareP x).k, .int .i64 (hnum (bareP x)), .string (htxt (bareP x)), .int .i64 (bareP x).kids.length], .slice p m.length cap, .slice p' own.length cap'] w2 fun e w' => e = .returned (.bool b) ∧ Below w2.heap.size w2 w') := Hbeh.out w2 h1
    clear Hcells hy f4 f5 Hbeh hxk Hf
    generalize (bareP x).k = xk at *
    generalize hnum (bareP x) = xn at *
    generalize htxt (bareP x) = xs at *
    generalize (bareP x).kids.length = xm at *
    have H1 : Hid (Below w.heap.size w w2) := h1
    clear h1
    go_wp2_with (go_at_call 28; refine Calls.mono Hb2.out ?_; clear Hb2; rintro e5 w5 ⟨rfl, h5⟩)
    go_ret
    exact ⟨rfl, H1.out.trans (h5.mono H1.out.size)⟩
/-- Where nothing is asked for first. -/
theorem use_open (m : List (List Pt)) (own : List Pt) (b : Bool) (hs : Sm m own) (h0 : m ≠ []) (hn : hasNil m = false) (hf : firstL own = none)
    (hr : areAllL (headsL m) = false → UseOk (restsL m) own.dropLast b)
    (hh : areAllL (headsL m) = true → ∃ F : Pt → Bool, b = (headsL m).any F ∧ ∀ x ∈ headsL m, (∀ pre post, headsL m = pre ++ x :: post → (∀ y ∈ pre, F y = false) → UseOk (behindsL (hdOf x) m) (ownL (hdOf x) own) (F x))) : UseOk m own b := by
  intro wb w p cap p' cap' hw hp hp' hc' hn'
  have hmb : ((m.length : Int) == 0) = false := by
    rw [beq_eq_false_iff_ne]
    have : m.length ≠ 0 := fun e => h0 (List.eq_nil_of_length_eq_zero e)
    omega
  have Hc : Hid (Calls Try.prog 25 #[.slice p m.length cap, .func (.func 26) #[] #[]] w fun e w' => e = .returned (.bool false) ∧ Below w.heap.size w w') := by
    have := contains_lines wb w p cap m hp
    rw [hn] at this
    exact this
  have Hfirst : Hid (∀ w1, Below w.heap.size w w1 → Calls Try.prog 27 #[.slice p' own.length cap'] w1 fun e w' => FirstPost wb w1 own e w') := fun w1 h1 => first_any wb w1 p' cap' own (hp'.below h1)
  have Hheads : Hid (∀ w1, Below w.heap.size w w1 → Calls Try.prog 29 #[.slice p m.length cap] w1 fun e w' => HeadsPost wb (headsL m) w1 e w') := fun w1 h1 => heads_any wb w1 p cap m (hw.trans (h1.mono hw.size)) (hp.below h1) hs.cnt
  have hhl : (headsL m).length ≤ 1000 := Nat.le_trans (headsL_len m) hs.cnt
  have Hall : Hid (∀ w1 q c, Below w.heap.size w w1 → HeadsAt wb w1 q (headsL m) → Calls Try.prog 30 #[.slice q (headsL m).length c] w1 fun e w' => e = .returned (.bool (areAllL (headsL m))) ∧ Below w1.heap.size w1 w') := fun w1 q c h1 hq => areAll_any wb w1 q c (headsL m) (hw.trans (h1.mono hw.size)) hq hhl
  have Hrests : Hid (∀ w1, Below w.heap.size w w1 → Calls Try.prog 31 #[.slice p m.length cap] w1 fun e w' => LinesPost wb (restsL m) w1 e w') := fun w1 h1 => restsAny_any wb w1 p cap m (hp.below h1) hs.cnt
  have Hrest : Hid (∀ w1, Below w.heap.size w w1 → Calls Try.prog 32 #[.slice p' own.length cap'] w1 fun e w' => Restl2 wb w1 p' own e w') := fun w1 h1 => restl_any2 wb w1 p' cap' own (hp'.below h1) hc' hn'
  have Hbeh : Hid (∀ x b2 w1, x ∈ headsL m → Below w.heap.size w w1 → UseOk (behindsL (hdOf x) m) (ownL (hdOf x) own) b2 → Calls Try.prog 28 #[.agg #[.int .i64 (bareP x).k, .int .i64 (hnum (bareP x)), .string (htxt (bareP x)), .int .i64 (bareP x).kids.length], .slice p m.length cap, .slice p' own.length cap'] w1 fun e w' => e = .returned (.bool b2) ∧ Below w1.heap.size w1 w') := fun x b2 w1 hx h1 hu => by
    obtain ⟨l, hl, hxl, _⟩ := headsL_mem hx
    exact useBehind_any m own (hdOf x) b2 hs (kids_m ((hs.rows l hl).2 x hxl)) hu wb w1 p cap p' cap' (hw.trans (h1.mono hw.size)) (hp.below h1) (hp'.below h1) hc' hn'
  have Hw : Hid (Below wb.heap.size wb w) := hw
  have Hf : Hid (firstL own = none) := hf
  have Hr : Hid (areAllL (headsL m) = false → UseOk (restsL m) own.dropLast b) := hr
  have Hh : Hid (areAllL (headsL m) = true → ∃ F : Pt → Bool, b = (headsL m).any F ∧ ∀ x ∈ headsL m, (∀ pre post, headsL m = pre ++ x :: post → (∀ y ∈ pre, F y = false) → UseOk (behindsL (hdOf x) m) (ownL (hdOf x) own) (F x))) := hh
  clear hw hp hp' hn' hn h0 hs hf hr hh
  go_enter Try.func15, Try.ntmps15
  go_wp2_with fail
  refine Calls.mono Hc.out ?_
  rintro e1 w1 ⟨rfl, h1⟩
  clear Hc
  go_wp2_with fail
  refine Calls.mono (Hfirst.out w1 h1) ?_
  clear Hfirst
  rintro e2 w2 (⟨rfl, rfl, hf⟩ | ⟨b2, y, rfl, rfl, hf, hy⟩)
  · clear hf
    go_wp2_with fail
    refine Calls.mono (Hheads.out w2 h1) ?_
    clear Hheads
    rintro e3 w3 ⟨q, c, rfl, hq3, h3⟩
    have H13 : Hid (Below w.heap.size w w3) := h1.trans (h3.mono h1.size)
    have Hq3 : Hid (HeadsAt wb w3 q (headsL m)) := hq3
    have Hc30 : Hid _ := Hall.out w3 q c H13.out hq3
    clear h1 h3 hq3 Hall
    go_wp2_with fail
    refine Calls.mono Hc30.out ?_
    clear Hc30
    rintro e4 w4 ⟨rfl, h4⟩
    have H14 : Hid (Below w.heap.size w w4) := H13.out.trans (h4.mono H13.out.size)
    have Hq4 : Hid (HeadsAt wb w4 q (headsL m)) := HeadsAt.below Hq3.out h4
    clear h4 H13 Hq3
    cases hA : areAllL (headsL m) with
    | false =>
      have hu := Hr.out hA
      go_wp2_with fail
      refine Calls.mono (Hrests.out w4 H14.out) ?_
      clear Hrests
      rintro e5 w5 ⟨q5, c5, rfl, hq5, h5⟩
      have H15 : Hid (Below w.heap.size w w5) := H14.out.trans (h5.mono H14.out.size)
      have Hq5 : Hid (LinesAt wb w5 q5 (restsL m)) := hq5
      clear h5 hq5 H14 Hq4
      go_wp2_with fail
      refine Calls.mono (Hrest.out w5 H15.out) ?_
      clear Hrest
      rintro e6 w6 ⟨c6, rfl, h6c, _, h6n, h6R, rfl⟩
      have Hc15 : Hid (Calls Try.prog 15 #[.slice q5 (restsL m).length c5, .slice p' own.dropLast.length c6] w6 fun e w' => e = .returned (.bool b) ∧ Below w6.heap.size w6 w') := hu wb w6 q5 c5 p' c6 (Below.trans Hw.out (H15.out.mono Hw.out.size)) Hq5.out h6R h6c h6n
      clear h6R h6n h6c Hq5 hu
      generalize own.dropLast.length = ol at *
      go_wp2_with fail
      refine Calls.mono Hc15.out ?_
      clear Hc15
      rintro e7 w7 ⟨rfl, h7⟩
      go_wp2
      go_ret
      exact ⟨rfl, H15.out.trans (h7.mono H15.out.size)⟩
    | true =>
      obtain ⟨F, hF1, hF2⟩ := Hh.out hA
      have HF1 : Hid (b = (headsL m).any F) := hF1
      have HF2 : Hid (∀ x ∈ headsL m, (∀ pre post, headsL m = pre ++ x :: post → (∀ y ∈ pre, F y = false) → UseOk (behindsL (hdOf x) m) (ownL (hdOf x) own) (F x))) := hF2
      clear hF1 hF2 Hh Hr Hrests Hrest hA
      generalize hhs : headsL m = hs at *
      go_wp2_with fail
      go_loopg [37] hs.length (fun g iv wr => ∃ (i : Nat), iv = .int .i64 i ∧ i ≤ hs.length ∧ g = hs.length - i ∧ Hid (Below w4.heap.size w4 wr ∧ ∀ y ∈ hs.take i, F y = false))
      case atStart => exact ⟨0, rfl, by omega, by omega, Below.refl _ _, by simp⟩
      case round =>
        obtain ⟨i, rfl, hi1, rfl, HL⟩ := hrel
        obtain ⟨k1, k2⟩ := HL.out
        clear HL
        by_cases hi : i < hs.length
        · have hi' : (i : Int) < hs.length := by omega
          obtain ⟨bb, o, v, rfl, hcell, hv⟩ := Hq4.out.line.get i hi
          have hk := Hq4.out.some_ _ (List.getElem_mem hi)
          have hin : (hs[i]'hi) ∈ hs := List.getElem_mem hi
          have hsplit : hs = hs.take i ++ (hs[i]'hi) :: hs.drop (i + 1) := by
            rw [← List.drop_eq_getElem_cons hi, List.take_append_drop]
          have htk : hs.take (i + 1) = hs.take i ++ [hs[i]'hi] := List.take_succ_eq_append_getElem hi
          have hu := HF2.out _ hin _ _ hsplit k2
          have hcell' := (k1.cell (p := ⟨bb, o + i, none⟩) (World.block_lt_of_cell? _ _ hcell)).trans hcell
          have hbl := World.block_lt_of_cell? _ _ hcell'
          generalize hs[i]'hi = x at *
          obtain ⟨bx, rfl⟩ := hv.at_ hk
          have H1r : Hid (Below w.heap.size w wr) := H14.out.trans (k1.mono H14.out.size)
          obtain ⟨px, cx, f0, f1, f2, f3, f4, f5, f6⟩ := hv.cells hk (Below.trans Hw.out (H1r.out.mono Hw.out.size))
          have Hc28 : Hid (Calls Try.prog 28 #[.agg #[.int .i64 (bareP x).k, .int .i64 (hnum (bareP x)), .string (htxt (bareP x)), .int .i64 (bareP x).kids.length], .slice p m.length cap, .slice p' own.length cap'] wr fun e w' => e = .returned (.bool (F x)) ∧ Below wr.heap.size wr w') := Hbeh.out x (F x) wr (by first | exact hin | (rw [hhs]; exact hin)) H1r.out hu
          have K1 : Hid (Below w4.heap.size w4 wr) := k1
          have Htk : Hid (hs.take (i + 1) = hs.take i ++ [x]) := htk
          have K2 : Hid (∀ y ∈ hs.take i, F y = false) := k2
          have Hin : Hid (x ∈ hs) := hin
          clear hcell hv hk hin hsplit htk hu k1 k2 f4 f5
          generalize (bareP x).k = xk at *
          generalize hnum (bareP x) = xn at *
          generalize htxt (bareP x) = xs at *
          generalize (bareP x).kids.length = xm at *
          cases hFx : F x with
          | true =>
            rw [hFx] at Hc28
            have HB : Hid (b = true) := by
              unfold Hid
              rw [HF1.out, List.any_eq_true]
              exact ⟨x, Hin.out, hFx⟩
            have Q : Hid (∀ w5, Below wr.heap.size wr w5 → Ending.returned (.bool true) = Ending.returned (.bool b) ∧ Below w.heap.size w w5) := fun w5 h5 => ⟨by rw [HB.out], H1r.out.trans (h5.mono H1r.out.size)⟩
            clear hFx HF1 HF2 K1 K2 Htk Hin HB
            go_wp2_with (go_at_call 28; refine Calls.mono Hc28.out ?_; clear Hc28; rintro e5 w5 ⟨rfl, h5⟩)
            go_ret
            exact Q.out _ h5
          | false =>
            rw [hFx] at Hc28
            have Q : Hid (∀ w5, Below wr.heap.size wr w5 → (Below w4.heap.size w4 w5 ∧ ∀ y ∈ hs.take (i + 1), F y = false)) := fun w5 h5 => ⟨K1.out.trans (h5.mono K1.out.size), fun y hy => by
              rw [Htk.out] at hy
              rcases List.mem_append.1 hy with hy | hy
              · exact K2.out y hy
              · obtain rfl : y = x := by simpa using hy
                exact hFx⟩
            clear hFx HF2 K1 K2 Htk Hin H1r
            go_wp2_with (go_at_call 28; refine Calls.mono Hc28.out ?_; clear Hc28; rintro e5 w5 ⟨rfl, h5⟩)
            go_roundg (hs.length - (i + 1))
            case measure => omega
            case rel => exact ⟨i + 1, by first | rfl | (congr 1; omega) | go_num, by omega, rfl, Q.out _ h5⟩
        · have hi' : ¬ (i : Int) < hs.length := by omega
          rw [List.take_of_length_le (by omega)] at k2
          have HB : Hid (b = false) := by
            unfold Hid
            rw [HF1.out, List.any_eq_false]
            intro y hy
            rw [k2 y hy]
            simp
          have Q : Hid (Ending.returned (.bool false) = Ending.returned (.bool b) ∧ Below w.heap.size w wr) := ⟨by rw [HB.out], H14.out.trans (k1.mono H14.out.size)⟩
          clear k1 k2 HF1 HF2 HB
          go_wp2
          go_ret
          exact Q.out
  · rw [Hf.out] at hf
    cases hf
end
end Go.Proofs.Ytjhfomfaddfklaa
