/-
  The document's layer matches: what rows ask for first, each once (firsts).
-/
import Derived.Test.YtjhfomfaddfklaaU7
namespace Go.Proofs.Ytjhfomfaddfklaa
open Go.RowKit Go.Deep
def newP (l : List Pt) (p : Pt) : Bool := decide (p.k ≠ 0) && l.all fun y => !alikeP p y
def addP (l : List Pt) (p : Pt) : List Pt := if newP l p = true then l ++ [p] else l
/-- What rows ask for first, each once, behind a list. -/
def firstsFrom : List Pt → List (List Pt) → List Pt
  | l, [] => l
  | l, [] :: m => firstsFrom l m
  | l, (x :: _) :: m => firstsFrom (addP l (bareP x)) m
theorem firstsFrom_snoc (l : List Pt) (m : List (List Pt)) (x : Pt) (r : List Pt) : firstsFrom l (m ++ [x :: r]) = addP (firstsFrom l m) (bareP x) := by
  induction m generalizing l with
  | nil => simp [firstsFrom]
  | cons y m ih =>
    rw [List.cons_append]
    cases y with
    | nil => rw [firstsFrom, firstsFrom, ih]
    | cons z s => rw [firstsFrom, firstsFrom, ih]
theorem newP_app (l r : List Pt) (p : Pt) : newP (l ++ r) p = (newP l p && r.all fun y => !alikeP p y) := by
  unfold newP
  rw [List.all_append, Bool.and_assoc]
theorem newP_take {l : List Pt} {j : Nat} {p : Pt} (h : newP (l.take j) p = false) : newP l p = false := by
  rw [← List.take_append_drop j l, newP_app, h]
  rfl
theorem row_one {wb : World} {c : PC} {P : Pt} (h : PtIn wb c P) (w : World) : RowAt wb (w.alloc c.obj) (some ⟨w.heap.size, 0, none⟩) [P] :=
  ⟨by simp [maxLen], fun i hi => by
    obtain rfl : i = 0 := by simpa using hi
    exact ⟨w.heap.size, 0, c, rfl, by simpa using (pbox_new w c).cells, h⟩⟩
/-- A region that draws its order, each operation the same in every world of a class. -/
theorem region_in {P : Program} {C : World → Prop} {id : Nat} {Q : Exit → Act → World → Prop} {a : Act} {w : World} {l : List Oper} (hm : P.follows .mixedOrders = true) (hB : Region.lexB .any l.toArray = true) (hC : C w.drew)
    (h : wpQuiet P l.toArray C (fun a' => ∀ w', C w' → Q .normal a' w') l a) : (Code.region id l.toArray true).wp P Q a w := wp_region_quiet (C := C) hm hB hC (by simpa using h)
inductive RowPost (wb : World) (R : List Pt) (w : World) (e : Ending) (w' : World) : Prop
  | mk (q : Option Addr) (cap : Nat) (he : e = .returned (.slice q R.length cap)) (hc : R.length ≤ cap) (hR : RowAt wb w' q R) (hb : Below w.heap.size w w') : RowPost wb R w e w'
section
set_option maxHeartbeats 8000000
set_option maxRecDepth 100000
theorem firsts_any (wb w : World) (p : Option Addr) (cap : Nat) (m : List (List Pt)) (hw : Below wb.heap.size wb w) (hp : MatAt wb w p m) (hf : Fine m) :
    Calls Try.prog 36 #[.slice p m.length cap] w fun e w' => RowPost wb (firstsFrom [] m) w e w' := by
  have Hm : Hid (MatAt wb w p m) := hp
  have Hwa : Hid (Below wb.heap.size wb w) := hw
  have Hf : Hid (Fine m) := hf
  have hml := hf.len
  clear hp hw hf
  go_enter Try.func36, Try.ntmps36
  go_wp2_with fail
  go_loopg [3, 4] m.length (fun g v iv wr => ∃ (i : Nat) (L : List (PC × Pt)) (v' : Value), v' = v ∧ iv = .int .i64 i ∧ i ≤ m.length ∧ g = m.length - i ∧ Hid (OwnP wb wr w.heap.size v' L ∧ L.map (·.2) = firstsFrom [] (m.take i) ∧ Below w.heap.size w wr ∧ L.length ≤ i))
  case atStart => exact ⟨0, [], _, rfl, rfl, by omega, by omega, OwnP.nil _ _ _, by simp [firstsFrom], Below.refl _ _, by simp⟩
  case round =>
    obtain ⟨i, L, v5, hv5, rfl, hi1, rfl, HL⟩ := hrel
    subst hv5
    obtain ⟨q1, q2, q3, q4⟩ := HL.out
    clear HL
    by_cases hi : i < m.length
    · have hi' : (i : Int) < m.length := by omega
      obtain ⟨b, o, z, zc, rfl, hcell, hzc, hrow⟩ := Hm.out.get i hi
      obtain ⟨f1, f2, f3⟩ := Hf.out.rows _ (List.getElem_mem hi)
      have htk : m.take (i + 1) = m.take i ++ [m[i]'hi] := List.take_succ_eq_append_getElem hi
      generalize m[i]'hi = row at *
      obtain ⟨x, r, rfl⟩ : ∃ x r, row = x :: r := by
        cases row with
        | nil => exact absurd rfl f1
        | cons x r => exact ⟨x, r, rfl⟩
      have Htk : Hid (m.take (i + 1) = m.take i ++ [x :: r]) := htk
      have hxg := f3 x (by simp)
      obtain ⟨b2, o2, c, rfl, hc6, hx⟩ := hrow.get 0 (by simp)
      simp only [Nat.zero_mul, Nat.add_zero, List.getElem_cons_zero] at hc6 hx
      have hbl := World.block_lt_of_cell? _ _ hcell
      have hcr := (q3.cell (p := ⟨b, o + i, none⟩) hbl).trans hcell
      have hbr := Nat.lt_of_lt_of_le hbl q3.size
      obtain ⟨d0, d1, d2, d3, d4, d5⟩ := hc6.below q3
      have hb2 := World.block_lt_of_cell? _ _ d0
      have hwr : Below wb.heap.size wb wr := Below.trans Hwa.out (q3.mono (Below.size Hwa.out))
      have Hcall : Hid _ := bare_any wb c x hx hxg wr hwr
      have Q1 : Hid (OwnP wb wr w.heap.size v5 L) := q1
      have Q2 : Hid (L.map (·.2) = firstsFrom [] (m.take i)) := q2
      have Q3 : Hid (Below w.heap.size w wr) := q3
      have hrl : ((x :: r).length : Nat) = r.length + 1 := rfl
      simp only [List.length_cons] at hcr hzc
      clear q1 q2 q3 f1 f2 f3 htk hcell hrow hc6 hx hrl
      obtain ⟨ck, cn, co, ca, cs, cp, cl, cc⟩ := c
      simp only [PC.val] at *
      go_wp2_with fail
      refine Calls.mono Hcall.out ?_
      rintro e1 w2 ⟨c2, rfl, hP2, hb2'⟩
      obtain ⟨pk, pn, po, pa, ps, pp, pl, pc⟩ := c2
      have hB3 := pbox_new w2 ⟨pk, pn, po, pa, ps, pp, pl, pc⟩
      have hb3 : Below w2.heap.size w2 (w2.alloc (PC.obj ⟨pk, pn, po, pa, ps, pp, pl, pc⟩)) := (Below.refl _ _).alloc (Nat.le_refl _) _
      have hr3 : Below wr.heap.size wr (w2.alloc (PC.obj ⟨pk, pn, po, pa, ps, pp, pl, pc⟩)) := Below.then hb2' hb3 (Nat.le_refl _)
      have H13 : Hid (Below w.heap.size w _) := Below.then Q3.out hr3 (Nat.le_refl _)
      have HB3 : Hid (PBox _ _ _) := hB3
      have HP2 : Hid (PtIn wb ⟨pk, pn, po, pa, ps, pp, pl, pc⟩ (bareP x)) := hP2
      have Q1' : Hid (OwnP _ _ _ _ _) := OwnP.below Q1.out hr3
      have hpk := hP2.parts.1
      simp only at hpk
      have Hpk : Hid ((bareP x).k = pk) := hpk
      clear d0 d1 d2 d3 d4 d5 hB3 hb3 hb2' hP2 Hcall hr3 hpk hcr
      simp only [PC.val, PC.obj] at *
      go_upto_block 2 with fail
      generalize w2.alloc (Obj.cells #[Value.int IntKind.i64 pk, Value.int IntKind.i64 pn, Value.int IntKind.i64 po, Value.int IntKind.i64 pa, Value.string ps, Value.slice pp pl pc] 26) = w3 at *
      generalize w2.heap.size = pb at *
      obtain ⟨qv, qcap, rfl, hqc, hrowv⟩ := Q1'.out.at (by unfold maxLen; omega)
      obtain ⟨N, hN⟩ : ∃ N, newP (L.map (·.2)) (bareP x) = N := ⟨_, rfl⟩
      have HN : Hid (newP (L.map (·.2)) (bareP x) = N) := hN
      have Hrv : Hid (RowAt wb w3 qv (L.map (·.2))) := hrowv
      have hLl : (L.map (·.2)).length = L.length := by simp
      have hpn : (pk != 0) = newP ((L.map (·.2)).take 0) (bareP x) := by
        unfold newP
        rw [Hpk.out]
        by_cases h : pk = 0 <;> simp [h]
      have Hpn : Hid ((pk != 0) = newP ((L.map (·.2)).take 0) (bareP x)) := hpn
      clear hN hrowv hpn
      obtain ⟨l, hlm⟩ : ∃ l, L.map (·.2) = l := ⟨_, rfl⟩
      have Hlm : Hid (L.map (·.2) = l) := hlm
      rw [hlm] at Q2 HN Hrv hLl Hpn
      clear hlm
      have Hll : Hid (l.length = L.length) := hLl
      clear hLl
      generalize hnl : L.length = nl at *
      go_cut [6] from 9 to 46 (fun v wx => Hid (v = .bool N ∧ Below w3.heap.size w3 wx))
      case first =>
        go_wp2_with fail
        go_loopg [6, 7] nl (fun g v iv wr => ∃ (j : Nat) (nb : Bool), v = .bool nb ∧ iv = .int .i64 j ∧ j ≤ nl ∧ g = nl - j ∧ Hid (nb = newP (l.take j) (bareP x) ∧ Below w3.heap.size w3 wr))
        case atStart => exact ⟨0, _, rfl, rfl, by omega, by omega, Hpn.out, Below.refl _ _⟩
        case round =>
          obtain ⟨j, nb, rfl, rfl, hj1, rfl, HJ⟩ := hrel
          obtain ⟨t1, t2⟩ := HJ.out
          clear HJ
          rename World => wy
          by_cases hj : j < nl
          · have hj' : (j : Int) < nl := by omega
            cases nb with
            | false =>
              have hf := newP_take t1.symm
              have hNf : N = false := by rw [← HN.out]; exact hf
              subst hNf
              have Q : Hid (Below w3.heap.size w3 wy) := t2
              clear t1 t2 hf
              go_wp2
              go_meet
              exact ⟨rfl, Q.out⟩
            | true =>
              have hjl : j < l.length := by have := Hll.out; omega
              obtain ⟨g, go, cj, hqv, hcj, hPj⟩ := Hrv.out.get j hjl
              subst hqv
              have hnext : newP (l.take (j + 1)) (bareP x) = !alikeP (bareP x) (l[j]'hjl) := by
                rw [List.take_succ_eq_append_getElem hjl, newP_app, ← t1]
                simp
              obtain ⟨ek, en, eo, ea, es, ep, el, ec⟩ := cj
              have Hal : Hid (∀ wx, _) := fun wx => alikeC_any ⟨pk, pn, po, pa, ps, pp, pl, pc⟩ ⟨ek, en, eo, ea, es, ep, el, ec⟩ wx
              rw [alike_eq HP2.out hPj] at Hal
              simp only [PC.val] at Hal
              have Hnx : Hid (newP (l.take (j + 1)) (bareP x) = !alikeP (bareP x) (l[j]'hjl)) := hnext
              generalize alikeP (bareP x) (l[j]'hjl) = A at *
              have Hcl : Hid (∀ wx, Below wy.heap.size wy wx → (wx.cell? ⟨pb, 0, none⟩ = some (.int .i64 pk) ∧ wx.cell? ⟨pb, 1, none⟩ = some (.int .i64 pn) ∧ wx.cell? ⟨pb, 2, none⟩ = some (.int .i64 po) ∧ wx.cell? ⟨pb, 3, none⟩ = some (.int .i64 pa) ∧ wx.cell? ⟨pb, 4, none⟩ = some (.string ps) ∧ wx.cell? ⟨pb, 5, none⟩ = some (.slice pp pl pc) ∧ pb < wx.heap.size) ∧ Cells6 wx g (go + j * 6) ⟨ek, en, eo, ea, es, ep, el, ec⟩ ∧ g < wx.heap.size) := fun wx hx => by
                have h1x : Below w3.heap.size w3 wx := Below.then t2 hx (Nat.le_refl _)
                exact ⟨(PBox.below HB3.out h1x).cells', hcj.below h1x, (hcj.below h1x).lt⟩
              have T2 : Hid (Below w3.heap.size w3 wy) := t2
              clear t1 t2 hnext hcj hPj
              go_upto_region 10 with fail
              refine region_in (C := fun wx => Below wy.heap.size wy wx) (by kernel_rfl) (by kernel_rfl) ((Below.refl _ _).drew) ?_
              repeat
                refine wpQuiet_step (fun K hK => ?_)
                first
                  | (go_simp; refine hK _ ?_; clear hK K)
                  | (rw [if_pos (by rfl)]; apply Exists.intro; refine ⟨fun wx hwx => ?_, hK _ ?_⟩; (obtain ⟨⟨m0, m1, m2, m3, m4, m5, m6⟩, ⟨n0, n1, n2, n3, n4, n5⟩, n6⟩ := Hcl.out wx hwx; unfold Oper.quietAt; go_simp; first | done | rfl | exact ⟨rfl, rfl⟩ | (refine Calls.mono (Hal.out _) ?_; rintro e9 w9 ⟨rfl, hb9⟩; exact ⟨rfl, Below.then hwx hb9 (Nat.le_refl _)⟩)); clear hK K; go_simp)
              refine wpQuiet_nil ?_
              intro w9 hw9
              have Q : Hid ((!A) = newP (l.take (j + 1)) (bareP x) ∧ Below w3.heap.size w3 w9) := ⟨Hnx.out.symm, Below.then T2.out hw9 (Nat.le_refl _)⟩
              clear hw9 Hcl Hal
              go_wp2
              go_roundg (nl - (j + 1))
              case measure => omega
              case rel => exact ⟨j + 1, !A, rfl, by first | rfl | (congr 1; omega) | go_num, by omega, rfl, Q⟩
          · have hj' : ¬ (j : Int) < nl := by omega
            rw [List.take_of_length_le (by have := Hll.out; omega)] at t1
            have hNn : nb = N := by rw [t1]; exact HN.out
            subst hNn
            have Q : Hid (Below w3.heap.size w3 wy) := t2
            clear t1 t2
            go_wp2
            go_meet
            exact ⟨rfl, Q.out⟩
      case rest =>
        obtain ⟨rfl, hb9⟩ := hcut.out
        clear hcut
        rename World => w9
        have Q9 : Hid (Below w.heap.size w w9) := Below.then H13.out hb9 (Nat.le_refl _)
        have O9 : Hid (OwnP _ _ _ _ _) := OwnP.below Q1'.out hb9
        obtain ⟨m0, m1, m2, m3, m4, m5, m6⟩ := (PBox.below HB3.out hb9).cells'
        clear hb9
        cases N with
        | true =>
          have Hnext : Hid (firstsFrom [] (m.take i ++ [x :: r]) = l ++ [bareP x]) := by unfold Hid; rw [firstsFrom_snoc, ← Q2.out]; unfold addP; rw [HN.out]; rfl
          have hown := OwnP.below O9.out ((Below.refl _ _).alloc (Nat.le_refl _) (PC.obj ⟨pk, pn, po, pa, ps, pp, pl, pc⟩))
          have hro := row_one HP2.out w9
          have hz9 : w.heap.size ≤ (w9.alloc (PC.obj ⟨pk, pn, po, pa, ps, pp, pl, pc⟩)).heap.size := by have := Below.size Q9.out; simp; omega
          have hLb : L.length + [bareP x].length ≤ 1000000 := by simp; omega
          go_wp2_with (at_builtin; refine wpList_append_row (l := [bareP x]) rfl _ _ rfl hown hro (fun e => by cases e) hLb hz9 rfl rfl ?_)
          intro v6 w6 L6 ho6 hL6 hg6
          replace hL6 : L6.map (·.2) = [bareP x] := by have := hL6.out; simpa using this
          have hb6 : Below w.heap.size w w6 := by
            have h1 : Below w.heap.size w (w9.alloc (PC.obj ⟨pk, pn, po, pa, ps, pp, pl, pc⟩)) := Q9.out.alloc (Below.size Q9.out) _
            exact h1.trans (grown_below hg6.out (fun k hk => (hown.row.lt k hk).1) h1.size)
          have hL6l : L6.length = 1 := by have := congrArg List.length hL6; simpa using this
          have Q : Hid (OwnP wb w6 w.heap.size v6 (L ++ L6) ∧ (L ++ L6).map (·.2) = firstsFrom [] (m.take (i + 1)) ∧ Below w.heap.size w w6 ∧ (L ++ L6).length ≤ i + 1) := ⟨ho6.out, by rw [List.map_append, hL6, Htk.out, Hnext.out, Hlm.out], hb6, by simp; omega⟩
          clear ho6 hL6 hg6 hb6 hown hro m0 m1 m2 m3 m4 m5
          go_wp2
          go_roundg (m.length - (i + 1))
          case measure => omega
          case rel => exact ⟨i + 1, _, _, rfl, by first | rfl | (congr 1; omega) | go_num, by omega, rfl, Q⟩
        | false =>
          have Hnext : Hid (firstsFrom [] (m.take i ++ [x :: r]) = l) := by unfold Hid; rw [firstsFrom_snoc, ← Q2.out]; unfold addP; rw [HN.out]; rfl
          have Q : Hid (OwnP wb w9 w.heap.size (.slice qv nl qcap) L ∧ L.map (·.2) = firstsFrom [] (m.take (i + 1)) ∧ Below w.heap.size w w9 ∧ L.length ≤ i + 1) := ⟨O9.out, by rw [Htk.out, Hnext.out, Hlm.out], Q9.out, by omega⟩
          clear m0 m1 m2 m3 m4 m5
          go_wp2
          go_roundg (m.length - (i + 1))
          case measure => omega
          case rel => exact ⟨i + 1, _, _, rfl, by first | rfl | (congr 1; omega) | go_num, by omega, rfl, Q⟩
    · have hi' : ¬ (i : Int) < m.length := by omega
      rw [List.take_of_length_le (by omega)] at q2
      obtain ⟨q, qc, h1, h2, h3⟩ := q1.at (by unfold maxLen; omega)
      have hl : L.length = (firstsFrom [] m).length := by rw [← q2]; simp
      rw [hl] at h1 h2
      rw [q2] at h3
      have Q : Hid (RowPost wb (firstsFrom [] m) w (.returned (.slice q (firstsFrom [] m).length qc)) wr) := RowPost.mk q qc rfl h2 h3 q3
      subst h1
      clear h2 h3 q1 q2 q3 hl
      go_wp2
      go_ret
      exact Q.out
end
end Go.Proofs.Ytjhfomfaddfklaa
