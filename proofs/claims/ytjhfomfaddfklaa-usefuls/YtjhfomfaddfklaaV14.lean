/-
  The program's layer matches: what lines ask for first, each once (headsOf).
-/
import Derived.Test.YtjhfomfaddfklaaV13
namespace Go.Proofs.Ytjhfomfaddfklaa
open Go.RowKit Go.Deep Go.Shelf
section
set_option maxHeartbeats 8000000
set_option maxRecDepth 100000
theorem index_parts (wb w : World) (p : Option Addr) (cap : Nat) (hs : List Pt) (b2 B : Nat) (y : Pt) (hw : Below wb.heap.size wb w) (hp : HeadsAt wb w p hs) (hy : PrtIn wb (some ⟨b2, 0, none⟩) y) (hyk : (bareP y).k ≠ 0) (hB : w.cell? ⟨B, 0, none⟩ = some (.pointer (some ⟨b2, 0, none⟩))) :
    Calls Try.prog 49 #[.slice p hs.length cap, .func (.func 44) #[] #[.pointer (some ⟨B, 0, none⟩)]] w fun e w' => IdxPost (hasHd hs (hdOf y)) w e w' := by
  have Hp : Hid (HeadsAt wb w p hs) := hp
  have Hy : Hid (PrtIn wb (some ⟨b2, 0, none⟩) y ∧ (bareP y).k ≠ 0) := ⟨hy, hyk⟩
  have Hw : Hid (Below wb.heap.size wb w) := hw
  have HB : Hid (w.cell? ⟨B, 0, none⟩ = some (.pointer (some ⟨b2, 0, none⟩))) := hB
  have hml := hp.line.len
  unfold maxLen at hml
  clear hp hy hyk hw hB
  go_enter Try.func49, Try.ntmps49
  go_wp2_with fail
  go_loopg [8] hs.length (fun g iv wr => ∃ (i : Nat), iv = .int .i64 i ∧ i ≤ hs.length ∧ g = hs.length - i ∧ Hid (Below w.heap.size w wr ∧ hasHd (hs.take i) (hdOf y) = false))
  case atStart => exact ⟨0, rfl, by omega, by omega, Below.refl _ _, by simp [hasHd]⟩
  case round =>
    obtain ⟨i, rfl, hi1, rfl, HL⟩ := hrel
    obtain ⟨q1, q2⟩ := HL.out
    clear HL
    by_cases hi : i < hs.length
    · have hi' : (i : Int) < hs.length := by omega
      obtain ⟨b, o, v, rfl, hcell, hv⟩ := Hp.out.line.get i hi
      have hk := Hp.out.some_ _ (List.getElem_mem hi)
      have hcell' := (q1.cell (p := ⟨b, o + i, none⟩) (World.block_lt_of_cell? _ _ hcell)).trans hcell
      have hbl := World.block_lt_of_cell? _ _ hcell'
      have htk : hasHd (hs.take (i + 1)) (hdOf y) = (hasHd (hs.take i) (hdOf y) || Hd.eqb (hdOf (hs[i]'hi)) (hdOf y)) := by
        unfold hasHd
        rw [List.take_succ_eq_append_getElem hi, List.any_append]
        simp
      have hin : (hs[i]'hi) ∈ hs := List.getElem_mem hi
      generalize hs[i]'hi = x at *
      obtain ⟨bx, rfl⟩ := hv.at_ hk
      have hwr : Below wb.heap.size wb wr := Below.trans Hw.out (q1.mono Hw.out.size)
      have hBr : wr.cell? ⟨B, 0, none⟩ = some (.pointer (some ⟨b2, 0, none⟩)) := (q1.cell (p := ⟨B, 0, none⟩) (World.block_lt_of_cell? _ _ HB.out)).trans HB.out
      have Hcall : Hid _ := sameHead_any wb wr bx b2 B x y hwr hv hk Hy.out.1 Hy.out.2 hBr
      have Q1 : Hid (Below w.heap.size w wr) := q1
      rw [q2, Bool.false_or] at htk
      obtain ⟨E, hE⟩ : ∃ E, Hd.eqb (hdOf x) (hdOf y) = E := ⟨_, rfl⟩
      rw [hE] at htk Hcall
      clear hcell hwr hBr hv hk q1 q2
      cases E with
      | true =>
        have Q : Hid (∀ w3, Below wr.heap.size wr w3 → IdxPost (hasHd hs (hdOf y)) w (.returned (.int .i64 i)) w3) := fun w3 h3 => IdxPost.mk i rfl (by
          have h1 : hasHd hs (hdOf y) = true := by
            unfold hasHd
            rw [List.any_eq_true]
            exact ⟨x, hin, hE⟩
          rw [h1, decide_eq_true (by omega)]) (by omega) (Q1.out.trans (h3.mono Q1.out.size))
        clear htk hin hE
        go_wp2_with fail
        refine Calls.mono Hcall.out ?_
        rintro e1 w1 ⟨rfl, h1⟩
        clear Hcall
        go_wp2
        go_ret
        exact Q.out _ h1
      | false =>
        have Q : Hid (hasHd (hs.take (i + 1)) (hdOf y) = false) := htk
        clear htk hin hE
        go_wp2_with fail
        refine Calls.mono Hcall.out ?_
        rintro e1 w1 ⟨rfl, h1⟩
        clear Hcall
        go_wp2
        go_roundg (hs.length - (i + 1))
        case measure => omega
        case rel => exact ⟨i + 1, by first | rfl | (congr 1; omega) | go_num, by omega, rfl, Q1.out.trans (h1.mono Q1.out.size), Q.out⟩
    · have hi' : ¬ (i : Int) < hs.length := by omega
      have Q : Hid (IdxPost (hasHd hs (hdOf y)) w (.returned (.int .i64 (-1))) wr) := IdxPost.mk (-1) rfl (by
        rw [List.take_of_length_le (by omega)] at q2
        rw [q2]
        rfl) (by omega) q1
      clear q1 q2
      go_wp2
      go_ret
      exact Q.out
theorem contains_parts (wb w : World) (p : Option Addr) (cap : Nat) (hs : List Pt) (b2 B : Nat) (y : Pt) (hw : Below wb.heap.size wb w) (hp : HeadsAt wb w p hs) (hy : PrtIn wb (some ⟨b2, 0, none⟩) y) (hyk : (bareP y).k ≠ 0) (hB : w.cell? ⟨B, 0, none⟩ = some (.pointer (some ⟨b2, 0, none⟩))) :
    Calls Try.prog 43 #[.slice p hs.length cap, .func (.func 44) #[] #[.pointer (some ⟨B, 0, none⟩)]] w fun e w' => e = .returned (.bool (hasHd hs (hdOf y))) ∧ Below w.heap.size w w' := by
  have Hcall : Hid _ := index_parts wb w p cap hs b2 B y hw hp hy hyk hB
  clear hp hw hy hyk hB
  go_enter Try.func43, Try.ntmps43
  go_wp2_with fail
  refine Calls.mono Hcall.out ?_
  rintro e1 w1 ⟨r, rfl, hr, hr1, hb1⟩
  clear Hcall
  have Hr : Hid (hasHd hs (hdOf y) = decide (0 ≤ r)) := hr
  clear hr
  go_wp2
  go_ret
  rw [Hr.out]
  exact ⟨rfl, hb1⟩
/-- What lines ask for first, each once, behind a list. -/
def addH (hs : List Pt) (l : List Pt) : List Pt := match firstL l with
  | none => hs
  | some x => if hasHd hs (hdOf x) = true then hs else hs ++ [x]
def headsL (m : List (List Pt)) : List Pt := m.foldl addH []
theorem headsL_snoc (m : List (List Pt)) (l : List Pt) : headsL (m ++ [l]) = addH (headsL m) l := by simp [headsL]
/-- Parts of one's own row. -/
structure OwnV (wb w : World) (base : Nat) (v : Value) (L : List (Option Addr × Pt)) : Prop where
  row : w.ownsRow base 55 1 v L.length (L.map fun x => Value.pointer x.1)
  els : ∀ x ∈ L, PrtIn wb x.1 x.2 ∧ (bareP x.2).k ≠ 0
theorem OwnV.below {wb w w' : World} {base : Nat} {v : Value} {L : List (Option Addr × Pt)} (h : OwnV wb w base v L) (hb : Below w.heap.size w w') : OwnV wb w' base v L := ⟨owns_below h.row hb, h.els⟩
theorem OwnV.at {wb w : World} {base : Nat} {v : Value} {L : List (Option Addr × Pt)} (h : OwnV wb w base v L) (hm : L.length ≤ maxLen) : ∃ q cap, v = .slice q L.length cap ∧ L.length ≤ cap ∧ (q = none → cap = 0) ∧ HeadsAt wb w q (L.map (·.2)) := by
  obtain ⟨q, c, rfl, h1, h2, h3⟩ := own_form h.row
  refine ⟨q, c, rfl, h1, h2, ⟨⟨by simpa using hm, fun i hi => ?_⟩, fun x hx => ?_⟩⟩
  · have hi2 : i < L.length := by simpa using hi
    rcases h.row.2 with ⟨_, h0⟩ | ⟨g, cap, cur, hv, g1, g2, _⟩
    · omega
    · cases hv
      have hc := h.row.cells (g := g) rfl i (.pointer (L[i]'hi2).1) (by simp [hi2])
      rw [add_at] at hc
      exact ⟨g, 0, (L[i]'hi2).1, rfl, hc, by simpa using (h.els _ (List.getElem_mem hi2)).1⟩
  · obtain ⟨y, hy, rfl⟩ := List.mem_map.1 hx
    exact (h.els y hy).2
inductive HeadsPost (wb : World) (hs : List Pt) (w : World) (e : Ending) (w' : World) : Prop
  | mk (q : Option Addr) (c : Nat) (he : e = .returned (.slice q hs.length c)) (hh : HeadsAt wb w' q hs) (hb : Below w.heap.size w w') : HeadsPost wb hs w e w'
theorem heads_any (wb w : World) (p : Option Addr) (cap : Nat) (m : List (List Pt)) (hw : Below wb.heap.size wb w) (hp : LinesAt wb w p m) (hml : m.length ≤ 1000) :
    Calls Try.prog 29 #[.slice p m.length cap] w fun e w' => HeadsPost wb (headsL m) w e w' := by
  have Hp : Hid (LinesAt wb w p m) := hp
  have Hw : Hid (Below wb.heap.size wb w) := hw
  clear hp hw
  go_enter Try.func29, Try.ntmps29
  go_wp2_with fail
  go_loopg [3, 9] m.length (fun g v iv wr => ∃ (i : Nat) (L : List (Option Addr × Pt)) (q : Option Addr) (c : Nat), v = .slice q L.length c ∧ iv = .int .i64 i ∧ i ≤ m.length ∧ g = m.length - i ∧ L.length ≤ i ∧ Hid (OwnV wb wr w.heap.size (.slice q L.length c) L ∧ L.map (·.2) = headsL (m.take i) ∧ Below w.heap.size w wr))
  case atStart => exact ⟨0, [], none, 0, rfl, rfl, by omega, by omega, by simp, ⟨World.ownsRow_nil _ _ _ _, fun _ hx => by cases hx⟩, by simp [headsL], Below.refl _ _⟩
  case round =>
    obtain ⟨i, L, q, c, rfl, rfl, hi1, rfl, hLi, HL⟩ := hrel
    obtain ⟨q1, q2, q3⟩ := HL.out
    clear HL
    by_cases hi : i < m.length
    · have hi' : (i : Int) < m.length := by omega
      obtain ⟨b, o, z, zc, rfl, hcell, _, _, hline⟩ := Hp.out.get i hi
      have hcell' := (q3.cell (p := ⟨b, o + i, none⟩) (World.block_lt_of_cell? _ _ hcell)).trans hcell
      have hbl := World.block_lt_of_cell? _ _ hcell'
      have Htk : Hid (headsL (m.take (i + 1)) = addH (headsL (m.take i)) (m[i]'hi)) := by
        unfold Hid
        rw [List.take_succ_eq_append_getElem hi, headsL_snoc]
      generalize m[i]'hi = r at *
      have Hcall : Hid _ := first_any wb wr z zc r (hline.below q3)
      have hwr : Below wb.heap.size wb wr := Below.trans Hw.out (q3.mono Hw.out.size)
      have Hwr : Hid (Below wb.heap.size wb wr) := hwr
      have Q1 : Hid (OwnV wb wr w.heap.size (.slice q L.length c) L) := q1
      have Q2 : Hid (L.map (·.2) = headsL (m.take i)) := q2
      have Q3 : Hid (Below w.heap.size w wr) := q3
      clear hcell hline hwr q1 q2 q3
      go_upto_region 6 with (go_at_call 27; refine Calls.mono Hcall.out ?_; clear Hcall; rintro e2 w2 (⟨rfl, rfl, hf⟩ | ⟨bx, x, rfl, rfl, hf, hx⟩))
      · have hb4 : Below w2.heap.size w2 (w2.alloc (.cells #[.pointer none] 55)) := (Below.refl _ _).alloc (Nat.le_refl _) _
        have Q : Hid (OwnV wb (w2.alloc (.cells #[.pointer none] 55)) w.heap.size (.slice q L.length c) L ∧ L.map (·.2) = headsL (m.take (i + 1)) ∧ Below w.heap.size w (w2.alloc (.cells #[.pointer none] 55))) := ⟨Q1.out.below hb4, by rw [Q2.out, Htk.out]; unfold addH; rw [hf], Q3.out.trans (hb4.mono Q3.out.size)⟩
        clear Q1 Q2 Q3 Htk hf hcell' hb4
        go_wp2
        go_roundg (m.length - (i + 1))
        case measure => omega
        case rel => exact ⟨i + 1, L, q, c, rfl, by first | rfl | (congr 1; omega) | go_num, by omega, rfl, by omega, Q.out⟩
      · obtain ⟨hxm, hxk⟩ := firstL_some hf
        have hb4 : Below w2.heap.size w2 (w2.alloc (.cells #[.pointer (some ⟨bx, 0, none⟩)] 55)) := (Below.refl _ _).alloc (Nat.le_refl _) _
        have hw4 : Below wb.heap.size wb (w2.alloc (.cells #[.pointer (some ⟨bx, 0, none⟩)] 55)) := Below.trans Hwr.out (hb4.mono Hwr.out.size)
        have hbox : Boxed (w2.alloc (.cells #[.pointer (some ⟨bx, 0, none⟩)] 55)) w2.heap.size 55 (.pointer (some ⟨bx, 0, none⟩)) := Boxed.new w2 55 _
        have hown4 := Q1.out.below hb4
        have hb5 : Below w.heap.size w (w2.alloc (.cells #[.pointer (some ⟨bx, 0, none⟩)] 55)) := Q3.out.trans (hb4.mono Q3.out.size)
        obtain ⟨q', c', hqe, hqc, hqn, hheads⟩ := hown4.at (by unfold maxLen; omega)
        cases hqe
        have Hcall2 : Hid _ := contains_parts wb _ q c (L.map (·.2)) bx w2.heap.size x hw4 hheads hx hxk hbox.cell
        rw [List.length_map, Q2.out] at Hcall2
        have hnob : ∀ kk, Value.ownBlock (.slice q L.length c) = some kk → kk < w2.heap.size := fun kk hk => (Q1.out.row.lt kk hk).2
        have HBox : Hid (Boxed (w2.alloc (.cells #[.pointer (some ⟨bx, 0, none⟩)] 55)) w2.heap.size 55 (.pointer (some ⟨bx, 0, none⟩))) := hbox
        have HO : Hid (OwnV wb (w2.alloc (.cells #[.pointer (some ⟨bx, 0, none⟩)] 55)) w.heap.size (.slice q L.length c) L) := hown4
        have HB5 : Hid (Below w.heap.size w (w2.alloc (.cells #[.pointer (some ⟨bx, 0, none⟩)] 55))) := hb5
        have HX : Hid (PrtIn wb (some ⟨bx, 0, none⟩) x ∧ (bareP x).k ≠ 0) := ⟨hx, hxk⟩
        have hcb := hbox.cell
        have hlb := hbox.lt
        clear hb4 hw4 hbox hown4 hb5 hheads hx hxk hcell' Q1 Q3 hbl
        generalize w2.alloc (.cells #[.pointer (some ⟨bx, 0, none⟩)] 55) = w4 at *
        generalize w2.heap.size = Bb at *
        have Hadd : Hid (addH (headsL (m.take i)) r = if hasHd (headsL (m.take i)) (hdOf x) = true then headsL (m.take i) else headsL (m.take i) ++ [x]) := by
          unfold Hid addH
          rw [hf]
        obtain ⟨E, hE⟩ : ∃ E, hasHd (headsL (m.take i)) (hdOf x) = E := ⟨_, rfl⟩
        rw [hE] at Hcall2 Hadd
        clear hE hf hxm hnob
        cases E with
        | true =>
          have Q : Hid (∀ w5, Below w4.heap.size w4 w5 → (OwnV wb w5 w.heap.size (.slice q L.length c) L ∧ L.map (·.2) = headsL (m.take (i + 1)) ∧ Below w.heap.size w w5)) := fun w5 h5 => ⟨HO.out.below h5, by rw [Q2.out, Htk.out, Hadd.out]; rfl, HB5.out.trans (h5.mono HB5.out.size)⟩
          clear HO HB5 Htk Hadd Q2 HBox
          go_wp2_with (go_at_call 43; refine Calls.mono Hcall2.out ?_; clear Hcall2; rintro e5 w5 ⟨rfl, h5⟩)
          go_roundg (m.length - (i + 1))
          case measure => omega
          case rel => exact ⟨i + 1, L, q, c, rfl, by first | rfl | (congr 1; omega) | go_num, by omega, rfl, by omega, Q.out _ h5⟩
        | false =>
          have Hn : Hid (headsL (m.take (i + 1)) = headsL (m.take i) ++ [x]) := by
            unfold Hid
            rw [Htk.out, Hadd.out]
            rfl
          have Hfacts : Hid (∀ w5, Below w4.heap.size w4 w5 → w5.cell? ⟨Bb, 0, none⟩ = some (.pointer (some ⟨bx, 0, none⟩)) ∧ Bb < w5.heap.size ∧ Hid (OwnV wb w5 w.heap.size (.slice q L.length c) L ∧ Below w.heap.size w w5)) := fun w5 h5 => ⟨(h5.cell (p := ⟨Bb, 0, none⟩) hlb).trans hcb, Nat.lt_of_lt_of_le hlb h5.size, HO.out.below h5, HB5.out.trans (h5.mono HB5.out.size)⟩
          clear HO HB5 Htk Hadd HBox
          obtain ⟨i0, hi0, hzz0, hzz1, hzz2⟩ := info_parts infos55
          go_upto_region 7 with (go_at_call 43; refine Calls.mono Hcall2.out ?_; clear Hcall2; rintro e5 w5 ⟨rfl, h5⟩; obtain ⟨n1, n2, N3⟩ := Hfacts.out w5 h5; clear Hfacts)
          have hrow5 := N3.out.1.row
          have hsz5 : w.heap.size ≤ w5.heap.size := N3.out.2.size
          go_wp2_with (at_builtin; refine wpList_append_own_at _ rfl _ _ 40 rfl w.heap.size 55 i0 (.pointer none) 1 8 slice40 hi0 hzz0 hzz1 hzz2 rfl (by decide) (.slice q L.length c) L.length (L.map fun x => Value.pointer x.1) rfl (hrow5.alloc _) ⟨w5.heap.size, 0, none⟩ 1 1 [.pointer (some ⟨bx, 0, none⟩)] rfl rfl (cell_one_new w5 _ 55) (by intro u hu; simp only [List.mem_cons, List.not_mem_nil, or_false] at hu; subst hu; rfl) (by unfold maxLen; omega) (by omega) (by simp; omega) ?_)
          intro v7 w7 ho7 hg7 _ _
          obtain ⟨g7, c7, rfl⟩ := ownsRow_succ ho7
          have hb7 : Below w.heap.size w w7 := by
            have h1 : Below w.heap.size w (w5.alloc (.cells #[.pointer (some ⟨bx, 0, none⟩)] 55)) := N3.out.2.alloc hsz5 _
            exact h1.trans (grown_below hg7 (fun k hk => (hrow5.lt k hk).1) h1.size)
          have Q : Hid (OwnV wb w7 w.heap.size (.slice (some ⟨g7, 0, none⟩) (L ++ [((some ⟨bx, 0, none⟩ : Option Addr), x)]).length c7) (L ++ [((some ⟨bx, 0, none⟩ : Option Addr), x)]) ∧ (L ++ [((some ⟨bx, 0, none⟩ : Option Addr), x)]).map (·.2) = headsL (m.take (i + 1)) ∧ Below w.heap.size w w7) := ⟨⟨by simpa using ho7, fun y hy => by
              rcases List.mem_append.1 hy with hy | hy
              · exact N3.out.1.els y hy
              · obtain rfl : y = (some ⟨bx, 0, none⟩, x) := by simpa using hy
                exact HX.out⟩, by rw [List.map_append, Q2.out, Hn.out]; rfl, hb7⟩
          clear ho7 hg7 hb7 hrow5 N3 Hn Q2
          go_wp2
          go_roundg (m.length - (i + 1))
          case measure => omega
          case rel => exact ⟨i + 1, L ++ [((some ⟨bx, 0, none⟩ : Option Addr), x)], some ⟨g7, 0, none⟩, c7, by simp, by first | rfl | (congr 1; omega) | go_num, by omega, rfl, by simp; omega, Q.out⟩
    · have hi' : ¬ (i : Int) < m.length := by omega
      rw [List.take_of_length_le (by omega)] at q2
      obtain ⟨q', c', hqe, hqc, hqn, hheads⟩ := q1.at (by unfold maxLen; omega)
      cases hqe
      have hl : L.length = (headsL m).length := by rw [← q2]; simp
      rw [q2] at hheads
      have Q : Hid (HeadsPost wb (headsL m) w (.returned (.slice q L.length c)) wr) := HeadsPost.mk q c (by rw [hl]) hheads q3
      clear q1 q2 q3 hheads hl
      go_wp2
      go_ret
      exact Q.out
end
end Go.Proofs.Ytjhfomfaddfklaa
