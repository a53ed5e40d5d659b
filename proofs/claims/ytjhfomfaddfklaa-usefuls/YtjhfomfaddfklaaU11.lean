/-
  The document's layer matches: is a row useful (useful)?
-/
import Derived.Test.YtjhfomfaddfklaaU10
namespace Go.Proofs.Ytjhfomfaddfklaa
open Go.RowKit Go.Deep
theorem nat_beq_zero (n : Nat) : ((n : Int) == 0) = decide (n = 0) := by
  by_cases h : n = 0
  · subst h; rfl
  · rw [beq_eq_false_iff_ne.2 (by omega), decide_eq_false h]
theorem set6_block (w : World) (b : Nat) (c : PC) (k : Nat) (hk : k ≠ b) : (set6 w b c).heap[k]? = w.heap[k]? := by
  have h : ∀ (w : World) (j : Nat) (v : Value), (w.setCell ⟨b, j, none⟩ v).heap[k]? = w.heap[k]? := fun w j v => Below.heap_setCell _ _ _ _ hk
  unfold set6
  rw [h, h, h, h, h, h]
theorem OwnM.set6 {wb w : World} {base : Nat} {v : Value} {M : List RC} (h : OwnM wb w base v M) {pb : Nat} (hb : pb < base) (hrow : ∀ x ∈ M, ∀ b : Addr, x.q = some b → b.block ≠ pb) (c : PC) : OwnM wb (Ytjhfomfaddfklaa.set6 w pb c) base v M := by
  refine ⟨?_, fun x hx => ?_⟩
  · obtain ⟨q1, q2⟩ := h.row
    refine ⟨q1, ?_⟩
    rcases q2 with q2 | ⟨g, cap, cur, qv, qg, qh, qq⟩
    · exact .inl q2
    · exact .inr ⟨g, cap, cur, qv, qg, (set6_block w pb c g (by omega)).trans qh, qq⟩
  · obtain ⟨e1, e2, e3⟩ := h.els x hx
    exact ⟨e1.cellAt (fun b hb => set6_block w pb c _ (hrow x hx b hb)), e2, fun b hb => ⟨(e3 b hb).1, by rw [set6_size]; exact (e3 b hb).2⟩⟩
theorem row_tail {wb w : World} {z : Option Addr} {x : Pt} {r : List Pt} {zc : Nat} (h : RowAt wb w z (x :: r)) (hz : r.length + 1 ≤ zc) : ∃ b o, z = some ⟨b, o, none⟩ ∧ b < w.heap.size ∧ (zc = 1 → r = []) ∧ RowAt wb w (some ⟨b, o + 6, none⟩) r := by
  obtain ⟨b, o, c, rfl, h2, _⟩ := h.get 0 (by simp)
  exact ⟨b, o, rfl, h2.lt, fun e => List.eq_nil_of_length_eq_zero (by omega), h.tail⟩
theorem default_round {wb w w5 w7 w8 : World} {pb b3 : Nat} {v5 v8 : Value} {M : List RC} {c : PC} {r : List Pt} {fc o : Nat} (_ : OwnM wb w8 w5.heap.size v8 (M ++ [⟨some ⟨b3, o, none⟩, fc, r⟩])) (hg : (w7.alloc (.cells #[RC.val ⟨some ⟨b3, o, none⟩, fc, r⟩] 23)).grownBy w8 v5.ownBlock) (hown : OwnM wb w7 w5.heap.size v5 M) (hw : Below w.heap.size w w7) (hS : PBox w7 pb c) (hz : w5.heap.size ≤ w7.heap.size) (hpb : pb < w5.heap.size) (hw5 : w.heap.size ≤ w5.heap.size) (h7 : ∀ x ∈ M, ∀ b : Addr, x.q = some b → b.block < w.heap.size) (hb3 : b3 < w.heap.size) :
    Below w.heap.size w w8 ∧ PBox w8 pb c ∧ w5.heap.size ≤ w8.heap.size ∧ ∀ x ∈ M ++ [(⟨some ⟨b3, o, none⟩, fc, r⟩ : RC)], ∀ b : Addr, x.q = some b → b.block < w.heap.size := by
  have h1 : Below w.heap.size w (w7.alloc (.cells #[RC.val ⟨some ⟨b3, o, none⟩, fc, r⟩] 23)) := hw.alloc hw.size _
  have hrow : ∀ k, v5.ownBlock = some k → w5.heap.size ≤ k := fun k hk => (hown.row.lt k hk).1
  refine ⟨h1.trans (grown_below hg (fun k hk => Nat.le_trans hw5 (hrow k hk)) h1.size), ?_, ?_, ?_⟩
  · have hlt := hS.lt
    have : (w7.alloc (.cells #[RC.val ⟨some ⟨b3, o, none⟩, fc, r⟩] 23)).heap[pb]? = some c.obj := (Below.heap_alloc _ _ _ hlt).trans hS
    exact (hg.block pb (by simp; omega) (fun e => by have := hrow pb e.symm; omega)).trans this
  · have := hg.size
    simp at this
    omega
  · intro x hx b hb
    rcases List.mem_append.1 hx with hx | hx
    · exact h7 x hx b hb
    · obtain rfl : x = ⟨some ⟨b3, o, none⟩, fc, r⟩ := by simpa using hx
      cases hb
      exact hb3
section
set_option maxHeartbeats 16000000
set_option maxRecDepth 100000
theorem useful_any (wb : World) : ∀ (n : Nat) (q : List Pt) (m : List (List Pt)) (p : Option Addr) (cap : Nat) (p' : Option Addr) (cap' : Nat) (w : World), consM m + Pt.consL q < n → q.length + 1000 * n ≤ 300000 → Rect m q.length → (∀ x ∈ q, x.good = true) → m.length ≤ cap → q.length ≤ cap' → Below wb.heap.size wb w → MatAt wb w p m → RowAt wb w p' q →
    Calls Try.prog 21 #[.slice p m.length cap, .slice p' q.length cap'] w fun e w' => e = .returned (.bool (usefulF n m q)) ∧ Below w.heap.size w w' := by
  intro n
  induction n with
  | zero => intro q m p cap p' cap' w h; omega
  | succ n ih =>
    intro q
    induction q with
    | nil =>
      intro m p cap p' cap' w _ _ _ _ _ _ _ _ _
      have hU : usefulF (n + 1) m [] = ((m.length : Int) == 0) := by rw [nat_beq_zero]; rfl
      rw [hU]
      clear ih hU
      go_enter Try.func21, Try.ntmps21
      go_wp2
      go_ret
      exact ⟨rfl, Below.refl _ _⟩
    | cons x q ihq =>
      intro m p cap p' cap' w hcn hln hR hgq hcap hcap' hw hM hQ
      have hxg := hgq x (by simp)
      have hqg : ∀ y ∈ q, y.good = true := fun y hy => hgq y (by simp [hy])
      have hU : usefulF (n + 1) m (x :: q) = usefulQ (usefulF n) (x :: q) m := rfl
      rw [hU]
      obtain ⟨b, o, c, rfl, hc6, hx⟩ := hQ.get 0 (by simp)
      simp only [Nat.zero_mul, Nat.add_zero, List.getElem_cons_zero] at hc6 hx
      have Hcall : Hid _ := bare_any wb c x hx hxg w hw
      have hlt := hc6.lt
      obtain ⟨d0, d1, d2, d3, d4, d5⟩ := hc6
      obtain ⟨ck, cn, co, ca, cs, cp, cl, cc⟩ := c
      have HM : Hid (MatAt wb w p m) := hM
      have HQ : Hid (RowAt wb w (some ⟨b, o, none⟩) (x :: q)) := hQ
      have HW : Hid (Below wb.heap.size wb w) := hw
      have HRc : Hid (Rect m (q.length + 1)) := hR
      have Hih : Hid _ := ih
      have Hihq : Hid _ := ihq
      have hqb : q.length ≤ 300000 := by simp at hln; omega
      have hcap2 : q.length + 1 ≤ cap' := by simpa using hcap'
      have HF : Hid (Fine m) := hR.fine (by simp) (by simp at hln ⊢; omega)
      clear hM hQ hw hx ih ihq hR hU hcap'
      simp only [PC.val, List.length_cons] at *
      have hl0 : ((q.length : Int) + 1 == 0) = false := by rw [beq_eq_false_iff_ne]; omega
      obtain ⟨U, hUU⟩ : ∃ U, usefulQ (usefulF n) (x :: q) m = U := ⟨_, rfl⟩
      rw [hUU]
      have HU : Hid (usefulQ (usefulF n) (x :: q) m = U) := hUU
      clear hUU
      go_enter Try.func21, Try.ntmps21
      go_wp2_with fail
      refine Calls.mono Hcall.out ?_
      rintro e1 w2 ⟨c2, rfl, hP2, hb2'⟩
      obtain ⟨pk, pn, po, pa, ps, pp, pl, pc⟩ := c2
      have hB3 := pbox_new w2 ⟨pk, pn, po, pa, ps, pp, pl, pc⟩
      have hb3 : Below w2.heap.size w2 (w2.alloc (PC.obj ⟨pk, pn, po, pa, ps, pp, pl, pc⟩)) := (Below.refl _ _).alloc (Nat.le_refl _) _
      have H13 : Hid (Below w.heap.size w _) := Below.then hb2' hb3 (Nat.le_refl _)
      have HB3 : Hid (PBox _ _ _) := hB3
      have HP2 : Hid (PtIn wb ⟨pk, pn, po, pa, ps, pp, pl, pc⟩ (bareP x)) := hP2
      have hpk := hP2.parts.1
      simp only at hpk
      have Hpb : Hid (w.heap.size ≤ w2.heap.size) := hb2'.size
      clear d0 d1 d2 d3 d4 d5 hB3 hb3 hb2' hP2 Hcall hlt
      simp only [PC.val, PC.obj] at *
      go_upto_region 4 with fail
      generalize w2.alloc (Obj.cells #[Value.int IntKind.i64 pk, Value.int IntKind.i64 pn, Value.int IntKind.i64 po, Value.int IntKind.i64 pa, Value.string ps, Value.slice pp pl pc] 26) = w3 at *
      generalize w2.heap.size = pb at *
      have HM3 : Hid (MatAt _ _ _ _) := MatAt.below HM.out H13.out
      have HQ3 : Hid (RowAt _ _ _ _) := RowAt.below HQ.out H13.out
      have HW3 : Hid (Below wb.heap.size wb w3) := Below.trans HW.out (Below.mono H13.out (Below.size HW.out))
      obtain ⟨y0, y1, y2, y3, y4, y5, y6⟩ := PBox.cells' HB3.out
      by_cases hk0 : pk = 0
      · have hk' : (pk != 0) = false := by simpa using hk0
        have hkx : (bareP x).k = 0 := by rw [hpk]; exact hk0
        have HU2 : Hid (U = if wholeP (firstsFrom [] m) = true then (firstsFrom [] m).any (fun h => usefulF n (restsP h m) (List.replicate h.kids.length Pt.any ++ q)) else usefulQ (usefulF n) q (defaultP m)) := by
          unfold Hid
          rw [← HU.out, usefulQ, if_pos hkx]
        have Hkx : Hid ((bareP x).k = 0) := hkx
        have hcq : x.cons = 0 := cons_zero hxg hkx
        have hcn2 : consM m + Pt.consL q < n + 1 := by rw [Pt.consL] at hcn; omega
        have hres : ∀ h, restP x q h = (List.replicate h.kids.length Pt.any ++ q, true) := fun h => by unfold restP; rw [if_pos hkx]
        have Hres : Hid (∀ h, restP x q h = (List.replicate h.kids.length Pt.any ++ q, true)) := hres
        have Hcall : Hid _ := firsts_any wb w3 p cap m HW3.out HM3.out HF.out
        have Hfl : Hid (∀ h ∈ firstsFrom [] m, h.good = true ∧ consM (restsP h m) < consM m) := fun h hh => rests_less HRc.out hh
        clear hk0 hkx hpk hcn hcq hres
        go_wp2_with fail
        refine Calls.mono Hcall.out ?_
        rintro e4 w4 ⟨zl, zlc, rfl, hzlc, hrow4, hb4⟩
        generalize firstsFrom [] m = l at *
        have Hrow4 : Hid (RowAt wb w4 zl l) := hrow4
        have H34 : Hid (Below w3.heap.size w3 w4) := hb4
        have Hwh : Hid _ := whole_any wb w4 zl zlc l hrow4
        have hll := hrow4.len
        unfold maxLen at hll
        clear hb4 hrow4 Hcall
        go_wp2_with fail
        refine Calls.mono Hwh.out ?_
        rintro e5 w5 ⟨rfl, hw5⟩
        subst hw5
        clear Hwh
        cases hwl : wholeP l with
        | true =>
          have HU3 : Hid (U = l.any (fun h => usefulF n (restsP h m) (List.replicate h.kids.length Pt.any ++ q))) := by unfold Hid; rw [HU2.out, if_pos hwl]
          clear hwl HU2
          go_wp2_with fail
          go_loopg [10] l.length (fun g iv wr => ∃ (i : Nat), iv = .int .i64 i ∧ i ≤ l.length ∧ g = l.length - i ∧ Hid ((l.take i).any (fun h => usefulF n (restsP h m) (List.replicate h.kids.length Pt.any ++ q)) = false ∧ Below w5.heap.size w5 wr))
          case atStart => exact ⟨0, rfl, by omega, by omega, by simp, Below.refl _ _⟩
          case round =>
            obtain ⟨i, rfl, hi1, rfl, HJ⟩ := hrel
            obtain ⟨t1, t2⟩ := HJ.out
            clear HJ
            by_cases hi : i < l.length
            · have hi' : (i : Int) < l.length := by omega
              obtain ⟨g, go, cj, rfl, hcj, hPj⟩ := Hrow4.out.get i hi
              have htk : l.take (i + 1) = l.take i ++ [l[i]'hi] := List.take_succ_eq_append_getElem hi
              obtain ⟨hgj, hcons⟩ := Hfl.out _ (List.getElem_mem hi)
              have hmem := List.getElem_mem hi
              generalize l[i]'hi = hd at *
              obtain ⟨ek, en, eo, ea, es, ep, el, ec⟩ := cj
              have h3r : Below w3.heap.size w3 wr := Below.then H34.out t2 (Nat.le_refl _)
              have hWr : Below wb.heap.size wb wr := Below.trans HW3.out (h3r.mono (Below.size HW3.out))
              have hcr := hcj.below t2
              obtain ⟨n0, n1, n2, n3, n4, n5⟩ := hcr
              have hgl := World.block_lt_of_cell? _ _ n0
              have hkk := (good_kids hgj).1
              have hbk : (bareP x).kids.length ≤ 1000 := (good_kids (good_bare x hxg)).1
              have Hcall : Hid _ := rest_any wb wr (some ⟨b, o, none⟩) cap' x q ⟨ek, en, eo, ea, es, ep, el, ec⟩ hd hWr (RowAt.below HQ3.out h3r) hPj hxg hcap2 hqb hkk hbk
              rw [Hres.out hd] at Hcall
              simp only [PC.val] at Hcall
              have HPj : Hid (PtIn wb ⟨ek, en, eo, ea, es, ep, el, ec⟩ hd) := hPj
              have T1 : Hid ((l.take i).any (fun h => usefulF n (restsP h m) (List.replicate h.kids.length Pt.any ++ q)) = false) := t1
              have T2 : Hid (Below w5.heap.size w5 wr) := t2
              have H3r : Hid (Below w3.heap.size w3 wr) := h3r
              have Htk : Hid (l.take (i + 1) = l.take i ++ [hd]) := htk
              have Hmem : Hid (hd ∈ l) := hmem
              have Hcj : Hid (Cells6 w5 g (go + i * 6) ⟨ek, en, eo, ea, es, ep, el, ec⟩) := hcj
              clear t1 t2 hWr h3r hPj htk hcj hmem
              simp only at n0 n1 n2 n3 n4 n5
              go_wp2_with fail
              refine Calls.mono Hcall.out ?_
              rintro e6 w6 ⟨z, zc, rfl, hzc, hrow6, _, hb6⟩
              simp only at hzc hrow6
              have Hrow6 : Hid _ := hrow6
              have H36 : Below w3.heap.size w3 w6 := Below.then H3r.out hb6 (Nat.le_refl _)
              have hW6 : Below wb.heap.size wb w6 := Below.trans HW3.out (H36.mono (Below.size HW3.out))
              have hM6 := MatAt.below HM3.out H36
              have hb56 : Below w5.heap.size w5 w6 := Below.then T2.out hb6 (Nat.le_refl _)
              clear n0 n1 n2 n3 n4 n5 hgl
              obtain ⟨n0, n1, n2, n3, n4, n5⟩ := Cells6.below Hcj.out hb56
              have hgl := World.block_lt_of_cell? _ _ n0
              simp only at n0 n1 n2 n3 n4 n5
              have Hcall2 : Hid _ := rests_any wb w6 p cap m ⟨ek, en, eo, ea, es, ep, el, ec⟩ hd hW6 hM6 HPj.out HF.out hkk
              simp only [PC.val] at Hcall2
              have H36' : Hid _ := H36
              have H56 : Hid (Below w5.heap.size w5 w6) := hb56
              clear Hcall hrow6 hM6 hW6 H36 hb6 hb56
              go_wp2_with fail
              refine Calls.mono Hcall2.out ?_
              rintro e7 w7 ⟨zm, zmc, rfl, hzm, hmat7, hb7⟩
              have H37 : Below w3.heap.size w3 w7 := Below.then H36'.out hb7 (Nat.le_refl _)
              have hW7 : Below wb.heap.size wb w7 := Below.trans HW3.out (H37.mono (Below.size HW3.out))
              have hR7 := (rests_sub HRc.out hgj).1
              have hln7 : (List.replicate hd.kids.length Pt.any ++ q).length + 1000 * n ≤ 300000 := by simp; omega
              have hcn7 : consM (restsP hd m) + Pt.consL (List.replicate hd.kids.length Pt.any ++ q) < n := by rw [Pt.consL_app, consL_any]; omega
              have hg7 : ∀ y ∈ List.replicate hd.kids.length Pt.any ++ q, y.good = true := fun y hy => by
                rcases List.mem_append.1 hy with hy | hy
                · rw [List.eq_of_mem_replicate hy]; exact good_any
                · exact hqg y hy
              have Hcall3 : Hid _ := Hih.out (List.replicate hd.kids.length Pt.any ++ q) (restsP hd m) zm zmc z zc w7 hcn7 hln7 (by rw [List.length_append, List.length_replicate]; exact hR7) hg7 hzm hzc hW7 hmat7 (RowAt.below Hrow6.out hb7)
              rw [List.length_append, List.length_replicate] at Hcall3
              obtain ⟨B, hB⟩ : ∃ B, usefulF n (restsP hd m) (List.replicate hd.kids.length Pt.any ++ q) = B := ⟨_, rfl⟩
              rw [hB] at Hcall3
              have HB : Hid (usefulF n (restsP hd m) (List.replicate hd.kids.length Pt.any ++ q) = B) := hB
              have H37' : Hid _ := H37
              have H57 : Hid (Below w5.heap.size w5 w7) := Below.then H56.out hb7 (Nat.le_refl _)
              clear hb7 hW7 hR7 hln7 hcn7 hg7 hB hmat7 H37 Hcall2 n0 n1 n2 n3 n4 n5 hgl
              go_wp2_with fail
              refine Calls.mono Hcall3.out ?_
              rintro e8 w8 ⟨rfl, hb8⟩
              have H38 : Hid (Below w3.heap.size w3 w8) := Below.then H37'.out hb8 (Nat.le_refl _)
              have H58 : Hid (Below w5.heap.size w5 w8) := Below.then H57.out hb8 (Nat.le_refl _)
              clear hb8 Hcall3
              cases B with
              | true =>
                have hUt : U = true := by
                  rw [HU3.out, List.any_eq_true]
                  exact ⟨hd, Hmem.out, HB.out⟩
                subst hUt
                have Q : Hid (Below w.heap.size w w8) := Below.then H13.out H38.out (Nat.le_refl _)
                go_wp2
                go_ret
                exact ⟨rfl, Q.out⟩
              | false =>
                have Q : Hid ((l.take (i + 1)).any (fun h => usefulF n (restsP h m) (List.replicate h.kids.length Pt.any ++ q)) = false ∧ Below w5.heap.size w5 w8) := ⟨by rw [Htk.out, List.any_append, T1.out]; simp [HB.out], H58.out⟩
                go_wp2
                go_roundg (l.length - (i + 1))
                case measure => omega
                case rel => exact ⟨i + 1, by first | rfl | (congr 1; omega) | go_num, by omega, rfl, Q⟩
            · have hi' : ¬ (i : Int) < l.length := by omega
              rw [List.take_of_length_le (by omega)] at t1
              have hUf : U = false := by rw [HU3.out]; exact t1
              subst hUf
              have Q : Hid (Below w.heap.size w wr) := Below.then (Below.then H13.out H34.out (Nat.le_refl _)) t2 (Nat.le_refl _)
              clear t1 t2
              go_wp2
              go_ret
              exact ⟨rfl, Q.out⟩
        | false =>
          have HU3 : Hid (U = usefulF (n + 1) (defaultP m) q) := by unfold Hid; rw [HU2.out, if_neg (by rw [hwl]; decide)]; rfl
          have hB5 := PBox.below HB3.out H34.out
          have hw5 : Below w.heap.size w w5 := Below.then H13.out H34.out (Nat.le_refl _)
          have Hw5 : Hid _ := hw5
          have HB5 : Hid (PBox w5 pb _) := hB5
          have hpb5 := hB5.lt
          have hml := HF.out.len
          clear hwl HU2 hB5 hw5 y0 y1 y2 y3 y4 y5 y6
          go_wp2_with fail
          go_loopg [14, 15] m.length (fun g v iv wr => ∃ (i : Nat) (M : List RC) (v' : Value), v' = v ∧ iv = .int .i64 i ∧ i ≤ m.length ∧ g = m.length - i ∧ Hid (OwnM wb wr w5.heap.size v' M ∧ M.map (·.l) = defaultP (m.take i) ∧ Below w.heap.size w wr ∧ (∃ c, PBox wr pb c) ∧ M.length ≤ i ∧ w5.heap.size ≤ wr.heap.size ∧ ∀ x ∈ M, ∀ b : Addr, x.q = some b → b.block < w.heap.size))
          case atStart => exact ⟨0, [], _, rfl, rfl, by omega, by omega, OwnM.nil _ _ _, by simp [defaultP], Hw5.out, ⟨_, HB5.out⟩, by simp, Nat.le_refl _, fun x hx => by cases hx⟩
          case round =>
            obtain ⟨i, M, v5, hv5, rfl, hi1, rfl, HL⟩ := hrel
            subst hv5
            obtain ⟨q1, q2, q3, ⟨cb, q5⟩, q4, q6, q7⟩ := HL.out
            clear HL
            by_cases hi : i < m.length
            · have hi' : (i : Int) < m.length := by omega
              obtain ⟨b2, o2, z, zc, rfl, hcell, hzc, hrow⟩ := HM.out.get i hi
              obtain ⟨f1, f2, f3⟩ := HF.out.rows _ (List.getElem_mem hi)
              have htk : m.take (i + 1) = m.take i ++ [m[i]'hi] := List.take_succ_eq_append_getElem hi
              generalize m[i]'hi = row at *
              obtain ⟨x2, r, rfl⟩ : ∃ x r, row = x :: r := by
                cases row with
                | nil => exact absurd rfl f1
                | cons x r => exact ⟨x, r, rfl⟩
              have hx2g := f3 x2 (by simp)
              obtain ⟨b3, o3, c3, rfl, hc6, hx2⟩ := hrow.get 0 (by simp)
              simp only [Nat.zero_mul, Nat.add_zero, List.getElem_cons_zero, List.length_cons] at hc6 hx2 hcell hzc
              have hbl2 := World.block_lt_of_cell? _ _ hcell
              have hbl3 := hc6.lt
              have hcr := (q3.cell (p := ⟨b2, o2 + i, none⟩) hbl2).trans hcell
              have hb2r := Nat.lt_of_lt_of_le hbl2 q3.size
              obtain ⟨d0, d1, d2, d3, d4, d5⟩ := hc6.below q3
              have hb3r := World.block_lt_of_cell? _ _ d0
              have hWr : Below wb.heap.size wb wr := Below.trans HW.out (q3.mono (Below.size HW.out))
              have Hcall : Hid _ := bare_any wb c3 x2 hx2 hx2g wr hWr
              have Q1 : Hid (OwnM wb wr w5.heap.size v5 M) := q1
              have Q2 : Hid (M.map (·.l) = defaultP (m.take i)) := q2
              have Q3 : Hid (Below w.heap.size w wr) := q3
              have Q5 : Hid (PBox wr pb cb) := q5
              have Q7 : Hid (∀ x ∈ M, ∀ b : Addr, x.q = some b → b.block < w.heap.size) := q7
              have Htk : Hid (m.take (i + 1) = m.take i ++ [x2 :: r]) := htk
              have Hcell : Hid (w.cell? ⟨b2, o2 + i, none⟩ = some (.slice (some ⟨b3, o3, none⟩) (r.length + 1) zc)) := hcell
              have Hrow : Hid (RowAt wb w (some ⟨b3, o3, none⟩) (x2 :: r)) := hrow
              clear q1 q2 q3 q5 q7 f1 f2 f3 htk hcell hrow hc6 hx2 hWr
              obtain ⟨fk, fn, fo, fa, fs, fp, fl, fc⟩ := c3
              simp only [PC.val] at *
              go_wp2_with fail
              refine Calls.mono Hcall.out ?_
              rintro e6 w6 ⟨c6, rfl, hP6, hb6⟩
              obtain ⟨gk, gn, go, ga, gs, gp, gl, gc⟩ := c6
              have hB6 := PBox.below Q5.out hb6
              obtain ⟨y0, y1, y2, y3, y4, y5, y6⟩ := hB6.cells'
              have z0 := hB6.frozen 0
              have z1 := hB6.frozen 1
              have z2 := hB6.frozen 2
              have z3 := hB6.frozen 3
              have z4 := hB6.frozen 4
              have z5 := hB6.frozen 5
              have hset := hB6.set6 ⟨gk, gn, go, ga, gs, gp, gl, gc⟩
              have hw6 : Below w.heap.size w w6 := Below.then Q3.out hb6 (Nat.le_refl _)
              have HW7 : Hid (Below w.heap.size w (set6 w6 pb ⟨gk, gn, go, ga, gs, gp, gl, gc⟩)) := Below.set6 hw6 Hpb.out _
              have HO7 : Hid (OwnM wb (set6 w6 pb ⟨gk, gn, go, ga, gs, gp, gl, gc⟩) w5.heap.size v5 M) := OwnM.set6 (OwnM.below Q1.out hb6) hpb5 (fun x hx b hb => by have := Q7.out x hx b hb; have := Hpb.out; omega) _
              have HS7 : Hid (PBox (set6 w6 pb ⟨gk, gn, go, ga, gs, gp, gl, gc⟩) pb ⟨gk, gn, go, ga, gs, gp, gl, gc⟩) := hset
              have Hz7 : Hid (w5.heap.size ≤ (set6 w6 pb ⟨gk, gn, go, ga, gs, gp, gl, gc⟩).heap.size) := by unfold Hid; rw [set6_size]; have := hb6.size; omega
              have hgk := hP6.parts.1
              simp only at hgk
              have Hgk : Hid ((bareP x2).k = gk) := hgk
              obtain ⟨ok, on, oo, oa, os, op, ol, oc⟩ := cb
              simp only [PC.val, set6] at *
              clear d0 d1 d2 d3 d4 d5 hB6 hset hw6 hb6 Hcall hP6 hgk hcr hb2r hb3r
              go_upto_region 23 with fail
              generalize (((((w6.setCell ⟨pb, 0, none⟩ (.int .i64 gk)).setCell ⟨pb, 1, none⟩ (.int .i64 gn)).setCell ⟨pb, 2, none⟩ (.int .i64 go)).setCell ⟨pb, 3, none⟩ (.int .i64 ga)).setCell ⟨pb, 4, none⟩ (.string gs)).setCell ⟨pb, 5, none⟩ (.slice gp gl gc) = w7 at *
              clear y0 y1 y2 y3 y4 y5 y6 z0 z1 z2 z3 z4 z5
              obtain ⟨y0, _, _, _, _, _, y6⟩ := PBox.cells' HS7.out
              have hc7 := (Below.cell HW7.out (p := ⟨b2, o2 + i, none⟩) hbl2).trans Hcell.out
              have hb27 := Nat.lt_of_lt_of_le hbl2 (Below.size HW7.out)
              simp only at y0
              by_cases hgz : gk = 0
              · have hgz' : (gk == 0) = true := by simpa using hgz
                have Hnext : Hid (defaultP (m.take i ++ [x2 :: r]) = defaultP (m.take i) ++ [r]) := by unfold Hid; rw [defaultP_snoc, if_pos (by rw [Hgk.out]; exact hgz)]
                have hown := HO7.out
                have hz7 := Hz7.out
                have hMl : M.length + 1 ≤ 1000000 := by omega
                clear hgz
                by_cases hc1 : zc = 1
                · have hr0 : r = [] := List.eq_nil_of_length_eq_zero (by omega)
                  subst hr0
                  subst hc1
                  have hsep : ∀ b : Addr, (some ⟨b3, o3, none⟩ : Option Addr) = some b → v5.ownBlock ≠ some b.block ∧ b.block < w7.heap.size := fun b hb => by
                    cases hb
                    refine ⟨fun e => ?_, Nat.lt_of_lt_of_le hbl3 (Below.size HW7.out)⟩
                    have := (hown.row.lt _ e).1
                    have := Below.size Hw5.out
                    simp only at *
                    omega
                  go_wp2_with (at_builtin; refine wpList_append_mat rfl _ _ rfl hown ⟨some ⟨b3, o3, none⟩, 0, []⟩ (RowAt.nil wb w7 _) (Nat.le_refl _) hsep hMl hz7 rfl rfl ?_)
                  intro v8 w8 ho8 hg8
                  have hnew := default_round (r := []) (fc := 0) ho8.out hg8.out hown HW7.out HS7.out hz7 hpb5 (Below.size Hw5.out) Q7.out hbl3
                  have Q : Hid (OwnM wb w8 w5.heap.size v8 (M ++ [(⟨some ⟨b3, o3, none⟩, 0, []⟩ : RC)]) ∧ (M ++ [(⟨some ⟨b3, o3, none⟩, 0, []⟩ : RC)]).map (·.l) = defaultP (m.take (i + 1)) ∧ Below w.heap.size w w8 ∧ (∃ c, PBox w8 pb c) ∧ (M ++ [(⟨some ⟨b3, o3, none⟩, 0, []⟩ : RC)]).length ≤ i + 1 ∧ w5.heap.size ≤ w8.heap.size ∧ ∀ x ∈ M ++ [(⟨some ⟨b3, o3, none⟩, 0, []⟩ : RC)], ∀ b : Addr, x.q = some b → b.block < w.heap.size) := ⟨ho8.out, by rw [List.map_append, Q2.out, Htk.out, Hnext.out]; rfl, hnew.1, ⟨_, hnew.2.1⟩, by simp; omega, hnew.2.2.1, hnew.2.2.2⟩
                  clear ho8 hg8 hnew hown hsep y0 hc7
                  go_wp2
                  go_roundg (m.length - (i + 1))
                  case measure => omega
                  case rel => exact ⟨i + 1, _, _, rfl, by first | rfl | (congr 1; omega) | go_num, by omega, rfl, Q⟩
                · have hc1' : 1 < zc := by omega
                  have hrt := (RowAt.below Hrow.out HW7.out).tail
                  have hzr : r.length ≤ zc - 1 := by omega
                  have hsep : ∀ b : Addr, (some ⟨b3, o3 + 6, none⟩ : Option Addr) = some b → v5.ownBlock ≠ some b.block ∧ b.block < w7.heap.size := fun b hb => by
                    cases hb
                    refine ⟨fun e => ?_, Nat.lt_of_lt_of_le hbl3 (Below.size HW7.out)⟩
                    have := (hown.row.lt _ e).1
                    have := Below.size Hw5.out
                    simp only at *
                    omega
                  go_wp2_with (at_builtin; refine wpList_append_mat rfl _ _ rfl hown ⟨some ⟨b3, o3 + 6, none⟩, zc - 1, r⟩ hrt hzr hsep hMl hz7 rfl rfl ?_)
                  intro v8 w8 ho8 hg8
                  have hnew := default_round (r := r) (fc := zc - 1) ho8.out hg8.out hown HW7.out HS7.out hz7 hpb5 (Below.size Hw5.out) Q7.out hbl3
                  have Q : Hid (OwnM wb w8 w5.heap.size v8 (M ++ [(⟨some ⟨b3, o3 + 6, none⟩, zc - 1, r⟩ : RC)]) ∧ (M ++ [(⟨some ⟨b3, o3 + 6, none⟩, zc - 1, r⟩ : RC)]).map (·.l) = defaultP (m.take (i + 1)) ∧ Below w.heap.size w w8 ∧ (∃ c, PBox w8 pb c) ∧ (M ++ [(⟨some ⟨b3, o3 + 6, none⟩, zc - 1, r⟩ : RC)]).length ≤ i + 1 ∧ w5.heap.size ≤ w8.heap.size ∧ ∀ x ∈ M ++ [(⟨some ⟨b3, o3 + 6, none⟩, zc - 1, r⟩ : RC)], ∀ b : Addr, x.q = some b → b.block < w.heap.size) := ⟨ho8.out, by rw [List.map_append, Q2.out, Htk.out, Hnext.out]; rfl, hnew.1, ⟨_, hnew.2.1⟩, by simp; omega, hnew.2.2.1, hnew.2.2.2⟩
                  clear ho8 hg8 hnew hown hsep y0 hc7 hrt
                  go_wp2
                  go_roundg (m.length - (i + 1))
                  case measure => omega
                  case rel => exact ⟨i + 1, _, _, rfl, by first | rfl | (congr 1; omega) | go_num, by omega, rfl, Q⟩
              · have hgz' : (gk == 0) = false := by simpa using hgz
                have Hnext : Hid (defaultP (m.take i ++ [x2 :: r]) = defaultP (m.take i)) := by unfold Hid; rw [defaultP_snoc, if_neg (by rw [Hgk.out]; exact hgz), List.append_nil]
                have Q : Hid (OwnM wb w7 w5.heap.size v5 M ∧ M.map (·.l) = defaultP (m.take (i + 1)) ∧ Below w.heap.size w w7 ∧ (∃ c, PBox w7 pb c) ∧ M.length ≤ i + 1 ∧ w5.heap.size ≤ w7.heap.size ∧ ∀ x ∈ M, ∀ b : Addr, x.q = some b → b.block < w.heap.size) := ⟨HO7.out, by rw [Q2.out, Htk.out, Hnext.out], HW7.out, ⟨_, HS7.out⟩, by omega, Hz7.out, Q7.out⟩
                clear hgz
                go_wp2
                go_roundg (m.length - (i + 1))
                case measure => omega
                case rel => exact ⟨i + 1, _, _, rfl, by first | rfl | (congr 1; omega) | go_num, by omega, rfl, Q⟩
            · have hi' : ¬ (i : Int) < m.length := by omega
              rw [List.take_of_length_le (by omega)] at q2
              obtain ⟨z, zc, h1, h2, h3⟩ := q1.at (by unfold maxLen; omega)
              have hl : M.length = (defaultP m).length := by rw [← q2]; simp
              rw [hl] at h1 h2
              rw [q2] at h3
              have hWr : Below wb.heap.size wb wr := Below.trans HW.out (q3.mono (Below.size HW.out))
              obtain ⟨hRd, hcd⟩ := default_sub HRc.out
              have Q3 : Hid (Below w.heap.size w wr) := q3
              have hqr := RowAt.below HQ.out q3
              have hln3 : q.length + 1000 * (n + 1) ≤ 300000 := by omega
              by_cases hc1 : cap' = 1
              · have hq0 : q = [] := List.eq_nil_of_length_eq_zero (by omega)
                have Hcall : Hid _ := Hihq.out (defaultP m) z zc (some ⟨b, o, none⟩) 0 wr (by omega) hln3 hRd hqg h2 (by rw [hq0]; exact Nat.le_refl _) hWr h3 (by rw [hq0]; exact RowAt.nil _ _ _)
                rw [← HU3.out] at Hcall
                subst hq0
                subst hc1
                subst h1
                clear q1 q2 q3 q5 q7 h2 h3 hWr hRd hcd hqr hln3
                simp only [List.length_nil] at Hcall
                go_wp2_with fail
                refine Calls.mono Hcall.out ?_
                rintro e9 w9 ⟨rfl, hb9⟩
                have Q : Hid (Below w.heap.size w w9) := Below.then Q3.out hb9 (Nat.le_refl _)
                clear hb9 Hcall
                go_wp2
                go_ret
                exact ⟨rfl, Q.out⟩
              · have hc1' : 1 < cap' := by omega
                have Hcall : Hid _ := Hihq.out (defaultP m) z zc (some ⟨b, o + 6, none⟩) (cap' - 1) wr (by omega) hln3 hRd hqg h2 (by omega) hWr h3 hqr.tail
                rw [← HU3.out] at Hcall
                subst h1
                clear q1 q2 q3 q5 q7 h2 h3 hWr hRd hcd hqr hln3
                go_wp2_with fail
                refine Calls.mono Hcall.out ?_
                rintro e9 w9 ⟨rfl, hb9⟩
                have Q : Hid (Below w.heap.size w w9) := Below.then Q3.out hb9 (Nat.le_refl _)
                clear hb9 Hcall
                go_wp2
                go_ret
                exact ⟨rfl, Q.out⟩
      · have hk' : (pk != 0) = true := by simpa using hk0
        have hkx : (bareP x).k ≠ 0 := by rw [hpk]; exact hk0
        have hRes : usefulQ (usefulF n) (x :: q) m = usefulF n (restsP (bareP x) m) ((bareP x).kids ++ q) := by rw [usefulQ, if_neg hkx]
        have HRes : Hid (U = usefulF n (restsP (bareP x) m) ((bareP x).kids ++ q)) := by unfold Hid; rw [← HU.out]; exact hRes
        have hxb := good_bare x hxg
        have hkk := (good_kids hxb).1
        have hre : restP x q (bareP x) = ((bareP x).kids ++ q, true) := by unfold restP; rw [if_neg hkx, alike_self]
        have Hcall : Hid _ := rest_any wb w3 (some ⟨b, o, none⟩) cap' x q ⟨pk, pn, po, pa, ps, pp, pl, pc⟩ (bareP x) HW3.out HQ3.out HP2.out hxg hcap2 hqb hkk hkk
        rw [hre] at Hcall
        simp only [PC.val] at Hcall
        have hch := cons_head hxg hkx
        obtain ⟨hR2, hc2⟩ := rests_sub HRc.out hxb
        have hcn2 : consM (restsP (bareP x) m) + Pt.consL ((bareP x).kids ++ q) < n := by
          rw [Pt.consL_app]
          rw [Pt.consL] at hcn
          omega
        have hln2 : ((bareP x).kids ++ q).length + 1000 * n ≤ 300000 := by rw [List.length_append]; omega
        have hg2 : ∀ y ∈ (bareP x).kids ++ q, y.good = true := fun y hy => by
          rcases List.mem_append.1 hy with hy | hy
          · exact (good_kids hxb).2 y hy
          · exact hqg y hy
        have HR2 : Hid (Rect (restsP (bareP x) m) ((bareP x).kids ++ q).length) := by unfold Hid; rw [List.length_append]; exact hR2
        have Hn2 : Hid _ := And.intro hcn2 (And.intro hln2 hg2)
        clear hk0 hRes hre hch hR2 hc2 hcn2 hln2 hg2 hcn hkx hpk
        go_wp2_with fail
        refine Calls.mono Hcall.out ?_
        rintro e4 w4 ⟨z, zc, rfl, hzc, hrow4, _, hb4⟩
        simp only at hzc hrow4
        have Hrow4 : Hid _ := hrow4
        have hB4 := PBox.below HB3.out hb4
        have HM4 := MatAt.below HM3.out hb4
        have HW4 : Below wb.heap.size wb w4 := Below.trans HW3.out (hb4.mono (Below.size HW3.out))
        have H34 : Hid (Below w3.heap.size w3 w4) := hb4
        clear y0 y1 y2 y3 y4 y5 y6 Hcall hb4 hrow4
        obtain ⟨y0, y1, y2, y3, y4, y5, y6⟩ := hB4.cells'
        have Hcall : Hid _ := rests_any wb w4 p cap m ⟨pk, pn, po, pa, ps, pp, pl, pc⟩ (bareP x) HW4 HM4 HP2.out HF.out hkk
        simp only [PC.val] at Hcall
        clear hB4 HM4 HW4
        go_wp2_with fail
        refine Calls.mono Hcall.out ?_
        rintro e5 w5 ⟨zm, zmc, rfl, hzm, hmat5, hb5⟩
        have h35 : Below w3.heap.size w3 w5 := Below.then H34.out hb5 (Nat.le_refl _)
        have hW5 : Below wb.heap.size wb w5 := Below.trans HW3.out (h35.mono (Below.size HW3.out))
        have hrow5 := RowAt.below Hrow4.out hb5
        have H15 : Hid (Below w.heap.size w w5) := Below.then H13.out h35 (Nat.le_refl _)
        have Hcall2 : Hid _ := Hih.out ((bareP x).kids ++ q) (restsP (bareP x) m) zm zmc z zc w5 Hn2.out.1 Hn2.out.2.1 HR2.out Hn2.out.2.2 hzm hzc hW5 hmat5 hrow5
        rw [← HRes.out, List.length_append] at Hcall2
        clear hb5 h35 hW5 hrow5 hmat5 Hcall y0 y1 y2 y3 y4 y5
        go_wp2_with fail
        refine Calls.mono Hcall2.out ?_
        rintro e6 w6 ⟨rfl, hb6⟩
        have Q : Hid (Below w.heap.size w w6) := Below.then H15.out hb6 (Nat.le_refl _)
        clear hb6 Hcall2
        go_wp2
        go_ret
        exact ⟨rfl, Q.out⟩
end
end Go.Proofs.Ytjhfomfaddfklaa
