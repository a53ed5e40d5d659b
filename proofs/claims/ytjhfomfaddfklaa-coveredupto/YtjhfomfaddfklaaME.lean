/-
  The document's layer matches: may a pattern be (proper)?
-/
import Derived.Test.YtjhfomfaddfklaaU11
namespace Go.Proofs.Ytjhfomfaddfklaa
open Go.RowKit Go.Deep
mutual
/-- How many parts are left behind a pattern; below 0: too many, or it may not be. -/
def properP : Pt → Int → Int
  | .mk k n o _ _ kids, left => if okP k n o kids.length = true then properL kids (left - 1) else -1
def properL : List Pt → Int → Int
  | [], left => left
  | x :: r, left => if 0 ≤ left then properL r (properP x left) else left
end
theorem properL_drop (l : List Pt) (i : Nat) (hi : i < l.length) (left : Int) : properL (l.drop i) left = if 0 ≤ left then properL (l.drop (i + 1)) (properP (l[i]'hi) left) else left := by
  rw [List.drop_eq_getElem_cons hi, properL]
theorem properL_neg (l : List Pt) {left : Int} (h : left < 0) : properL l left = left := by
  cases l with
  | nil => rw [properL]
  | cons x r => rw [properL, if_neg (by omega)]
mutual
theorem properP_le : ∀ (p : Pt) (left : Int), properP p left ≤ left ∨ properP p left = -1
  | .mk k n o a s kids, left => by
    rw [properP]
    split
    · have := properL_le kids (left - 1)
      omega
    · exact Or.inr rfl
theorem properL_le : ∀ (l : List Pt) (left : Int), properL l left ≤ left ∨ properL l left = -1
  | [], left => by rw [properL]; omega
  | x :: r, left => by
    rw [properL]
    split
    · have h1 := properP_le x left
      have h2 := properL_le r (properP x left)
      omega
    · omega
end
theorem len_beq_one (m : Nat) : ((m : Int) == 1) = decide (m = 1) := by
  by_cases h : m = 1
  · subst h; rfl
  · rw [beq_eq_false_iff_ne.2 (by omega), decide_eq_false h]
theorem len_bne_one (m : Nat) : ((m : Int) != 1) = decide (m ≠ 1) := by
  by_cases h : m = 1
  · subst h; rfl
  · rw [decide_eq_true h]
    simp
    omega
section
set_option maxHeartbeats 8000000
set_option maxRecDepth 100000
theorem proper_any (wb : World) (c : PC) (P : Pt) (hP : PtIn wb c P) : ∀ (left : Int) (w : World), -1 ≤ left → left ≤ 1000 → Below wb.heap.size wb w → Calls Try.prog 20 #[c.val, .int .i64 left] w fun e w' => e = .returned (.int .i64 (properP P left)) ∧ Below w.heap.size w w' := by
  induction hP with
  | mk c kids b o C hl hm hcap hz hw hp hc hr ih =>
    intro left w hl0 hl1 hbw
    obtain ⟨k, n, oo, a, s, p, len, cap⟩ := c
    simp only at hl hp hcap hw
    subst hl
    have hm' := hm
    unfold maxLen at hm'
    have Hbx : Hid (PBox _ _ _) := pbox_new w ⟨k, n, oo, a, s, p, kids.length, cap⟩
    have Hba : Hid (Below w.heap.size w (w.alloc (PC.obj ⟨k, n, oo, a, s, p, kids.length, cap⟩))) := (Below.refl _ _).alloc (Nat.le_refl _) _
    have Hih : Hid _ := ih
    have Hc : Hid (∀ i, i < kids.length → Cells6 wb b (o + i * 6) (C i)) := hc
    have Hp : Hid (kids ≠ [] → p = some ⟨b, o, none⟩) := hp
    have Hbw : Hid (Below wb.heap.size wb w) := hbw
    obtain ⟨R, hR⟩ : ∃ R, properP (.mk k n oo a s kids) left = R := ⟨_, rfl⟩
    have HR : Hid ((if okP k n oo kids.length = true then properL kids (left - 1) else -1) = R) := by unfold Hid; rw [← hR, properP]
    rw [hR]
    clear hR ih hr hc hp hbw hcap hz hw hm
    simp only [PC.val, PC.obj] at *
    go_enter Try.func20, Try.ntmps20
    go_upto_block 0 with fail
    generalize w.alloc (Obj.cells #[Value.int IntKind.i64 k, Value.int IntKind.i64 n, Value.int IntKind.i64 oo, Value.int IntKind.i64 a, Value.string s, Value.slice p kids.length cap] 26) = w1 at *
    obtain ⟨x0, x1, x2, x3, x4, x5, x6⟩ := PBox.cells' Hbx.out
    simp only at x0 x1 x2 x3 x4 x5
    obtain ⟨K, hK⟩ : ∃ K, okP k n oo kids.length = K := ⟨_, rfl⟩
    have HK : Hid (okP k n oo kids.length = K) := hK
    rw [hK] at HR
    clear hK
    go_cut [6] from 8 to 68 (fun v wx => Hid (v = .bool K ∧ wx = w1))
    case first =>
      have hcase : k = 0 ∨ k = 1 ∨ k = 3 ∨ k = 4 ∨ k = 2 ∨ k = 5 ∨ k = 6 ∨ k = 7 ∨ (k ≠ 0 ∧ k ≠ 1 ∧ k ≠ 3 ∧ k ≠ 4 ∧ k ≠ 2 ∧ k ≠ 5 ∧ k ≠ 6 ∧ k ≠ 7) := by omega
      rcases hcase with h | h | h | h | h | h | h | h | h
      · have e : K = ((kids.length : Int) == 0) := by rw [← HK.out, nat_beq_zero]; simp [okP, h]
        have h' : (k == 0) = true := by simpa using h
        subst e
        clear h
        go_wp2
        go_meet
        exact ⟨rfl, rfl⟩
      · have e : K = ((kids.length : Int) == 0) := by rw [← HK.out, nat_beq_zero]; simp [okP, h]
        have h' : (k == 1) = true := by simpa using h
        have h0' : (k == 0) = false := by rw [beq_eq_false_iff_ne]; omega
        subst e
        clear h
        go_wp2
        go_meet
        exact ⟨rfl, rfl⟩
      · have e : K = ((kids.length : Int) == 0) := by rw [← HK.out, nat_beq_zero]; simp [okP, h]
        have h' : (k == 3) = true := by simpa using h
        have h0' : (k == 0) = false := by rw [beq_eq_false_iff_ne]; omega
        have h1' : (k == 1) = false := by rw [beq_eq_false_iff_ne]; omega
        subst e
        clear h
        go_wp2
        go_meet
        exact ⟨rfl, rfl⟩
      · have e : K = ((kids.length : Int) == 0) := by rw [← HK.out, nat_beq_zero]; simp [okP, h]
        have h' : (k == 4) = true := by simpa using h
        have h0' : (k == 0) = false := by rw [beq_eq_false_iff_ne]; omega
        have h1' : (k == 1) = false := by rw [beq_eq_false_iff_ne]; omega
        have h3' : (k == 3) = false := by rw [beq_eq_false_iff_ne]; omega
        subst e
        clear h
        go_wp2
        go_meet
        exact ⟨rfl, rfl⟩
      · have e : K = ((kids.length : Int) == 1) := by rw [← HK.out, len_beq_one]; simp [okP, h]
        have h' : (k == 2) = true := by simpa using h
        have h0' : (k == 0) = false := by rw [beq_eq_false_iff_ne]; omega
        have h1' : (k == 1) = false := by rw [beq_eq_false_iff_ne]; omega
        have h3' : (k == 3) = false := by rw [beq_eq_false_iff_ne]; omega
        have h4' : (k == 4) = false := by rw [beq_eq_false_iff_ne]; omega
        subst e
        clear h
        go_wp2
        go_meet
        exact ⟨rfl, rfl⟩
      · have e : K = ((kids.length : Int) != 1) := by rw [← HK.out, len_bne_one]; simp [okP, h]
        have h' : (k == 5) = true := by simpa using h
        have h0' : (k == 0) = false := by rw [beq_eq_false_iff_ne]; omega
        have h1' : (k == 1) = false := by rw [beq_eq_false_iff_ne]; omega
        have h3' : (k == 3) = false := by rw [beq_eq_false_iff_ne]; omega
        have h4' : (k == 4) = false := by rw [beq_eq_false_iff_ne]; omega
        have h2' : (k == 2) = false := by rw [beq_eq_false_iff_ne]; omega
        subst e
        clear h
        go_wp2
        go_meet
        exact ⟨rfl, rfl⟩
      · have h' : (k == 6) = true := by simpa using h
        have h0' : (k == 0) = false := by rw [beq_eq_false_iff_ne]; omega
        have h1' : (k == 1) = false := by rw [beq_eq_false_iff_ne]; omega
        have h3' : (k == 3) = false := by rw [beq_eq_false_iff_ne]; omega
        have h4' : (k == 4) = false := by rw [beq_eq_false_iff_ne]; omega
        have h2' : (k == 2) = false := by rw [beq_eq_false_iff_ne]; omega
        have h5' : (k == 5) = false := by rw [beq_eq_false_iff_ne]; omega
        have hk6 : K = (decide (kids.length ≤ 1) && (decide (0 ≤ n) && decide (n < oo))) := by rw [← HK.out]; simp [okP, h]
        clear h
        by_cases m1 : kids.length ≤ 1
        · have m1' : (kids.length : Int) ≤ 1 := by omega
          by_cases m2 : 0 ≤ n
          · by_cases m3 : n < oo
            · have e : K = true := by rw [hk6]; simp [m1, m2, m3]
              subst e
              clear hk6
              go_wp2
              go_meet
              exact ⟨rfl, rfl⟩
            · have e : K = false := by rw [hk6]; simp [m3]
              subst e
              clear hk6
              go_wp2
              go_meet
              exact ⟨rfl, rfl⟩
          · have e : K = false := by rw [hk6]; simp [m2]
            subst e
            clear hk6
            go_wp2
            go_meet
            exact ⟨rfl, rfl⟩
        · have m1' : ¬ (kids.length : Int) ≤ 1 := by omega
          have e : K = false := by rw [hk6]; simp [m1]
          subst e
          clear hk6
          go_wp2
          go_meet
          exact ⟨rfl, rfl⟩
      · have h' : (k == 7) = true := by simpa using h
        have h0' : (k == 0) = false := by rw [beq_eq_false_iff_ne]; omega
        have h1' : (k == 1) = false := by rw [beq_eq_false_iff_ne]; omega
        have h3' : (k == 3) = false := by rw [beq_eq_false_iff_ne]; omega
        have h4' : (k == 4) = false := by rw [beq_eq_false_iff_ne]; omega
        have h2' : (k == 2) = false := by rw [beq_eq_false_iff_ne]; omega
        have h5' : (k == 5) = false := by rw [beq_eq_false_iff_ne]; omega
        have h6' : (k == 6) = false := by rw [beq_eq_false_iff_ne]; omega
        have e : K = decide ((kids.length : Int) ≤ 1) := by
          rw [← HK.out]
          by_cases m1 : kids.length ≤ 1
          · have m1' : (kids.length : Int) ≤ 1 := by omega
            simp [okP, h, m1, m1']
          · have m1' : ¬ (kids.length : Int) ≤ 1 := by omega
            simp [okP, h, m1, m1']
        clear h
        by_cases m1 : (kids.length : Int) ≤ 1
        · rw [decide_eq_true m1] at e
          subst e
          go_wp2
          go_meet
          exact ⟨rfl, rfl⟩
        · rw [decide_eq_false m1] at e
          subst e
          go_wp2
          go_meet
          exact ⟨rfl, rfl⟩
      · obtain ⟨a0, a1, a3, a4, a2, a5, a6, a7⟩ := h
        have e : K = false := by rw [← HK.out]; simp [okP, a0, a1, a2, a3, a4, a5, a6, a7]
        have h0' : (k == 0) = false := by rw [beq_eq_false_iff_ne]; exact a0
        have h1' : (k == 1) = false := by rw [beq_eq_false_iff_ne]; exact a1
        have h3' : (k == 3) = false := by rw [beq_eq_false_iff_ne]; exact a3
        have h4' : (k == 4) = false := by rw [beq_eq_false_iff_ne]; exact a4
        have h2' : (k == 2) = false := by rw [beq_eq_false_iff_ne]; exact a2
        have h5' : (k == 5) = false := by rw [beq_eq_false_iff_ne]; exact a5
        have h6' : (k == 6) = false := by rw [beq_eq_false_iff_ne]; exact a6
        have h7' : (k == 7) = false := by rw [beq_eq_false_iff_ne]; exact a7
        subst e
        clear a0 a1 a2 a3 a4 a5 a6 a7
        go_wp2
        go_meet
        exact ⟨rfl, rfl⟩
    case rest =>
      obtain ⟨rfl, hw9⟩ := hcut.out
      clear hcut
      have hw9 := hw9.symm
      subst hw9
      cases K with
      | false =>
        have e : R = -1 := by rw [← HR.out]; rfl
        subst e
        go_wp2
        go_ret
        exact ⟨rfl, Hba.out⟩
      | true =>
        have HR2 : Hid (properL (kids.drop 0) (left - 1) = R) := by unfold Hid; rw [List.drop_zero, ← HR.out]; rfl
        clear HR HK
        go_wp2_with fail
        go_loopg [1, 7] kids.length (fun g lv iv wr => ∃ (i : Nat) (l : Int), lv = .int .i64 l ∧ iv = .int .i64 i ∧ i ≤ kids.length ∧ g = kids.length - i ∧ l ≤ 1000 ∧ Hid (properL (kids.drop i) l = R ∧ Below w1.heap.size w1 wr))
        case atStart => exact ⟨0, left - 1, rfl, rfl, by omega, by omega, by omega, HR2.out, Below.refl _ _⟩
        case round =>
          obtain ⟨i, l, rfl, rfl, hi1, rfl, hl2, HJ⟩ := hrel
          obtain ⟨t1, t2⟩ := HJ.out
          clear HJ x0 x1 x2 x3 x4 x5 x6
          obtain ⟨_, _, _, _, _, x5, x6⟩ := PBox.cells' (PBox.below Hbx.out t2)
          simp only at x5
          by_cases hi : i < kids.length
          · have hi' : (i : Int) < kids.length := by omega
            by_cases hl : 0 ≤ l
            · have hpe := Hp.out (fun e => by rw [e] at hi; cases hi)
              subst hpe
              have hwr : Below wb.heap.size wb wr := Below.trans Hbw.out ((Below.then Hba.out t2 (Nat.le_refl _)).mono (Below.size Hbw.out))
              obtain ⟨d0, d1, d2, d3, d4, d5⟩ := (Hc.out i hi).below hwr
              have hbl := World.block_lt_of_cell? _ _ d0
              have hcall := Hih.out i hi l wr (by omega) hl2 hwr
              have Hcall : Hid _ := hcall
              have hle := properP_le (kids[i]'hi) l
              rw [properL_drop kids i hi, if_pos hl] at t1
              have T1 : Hid (properL (kids.drop (i + 1)) (properP (kids[i]'hi) l) = R) := t1
              have T2 : Hid (Below w1.heap.size w1 wr) := t2
              generalize properP (kids[i]'hi) l = l2 at *
              generalize C i = ci at *
              obtain ⟨ek, en, eo, ea, es, ep, el, ec⟩ := ci
              simp only at *
              clear t1 t2 hcall hwr
              go_wp2_with fail
              refine Calls.mono Hcall.out ?_
              rintro e8 w8 ⟨rfl, hb8⟩
              have Q : Hid (properL (kids.drop (i + 1)) l2 = R ∧ Below w1.heap.size w1 w8) := ⟨T1.out, Below.then T2.out hb8 (Nat.le_refl _)⟩
              clear hb8 Hcall d0 d1 d2 d3 d4 d5 x5
              go_wp2
              go_roundg (kids.length - (i + 1))
              case measure => omega
              case rel => exact ⟨i + 1, l2, rfl, by first | rfl | (congr 1; omega) | go_num, by omega, rfl, by omega, Q⟩
            · have e : l = R := by rw [← t1, properL_neg _ (by omega)]
              subst e
              have Q : Hid (Below w.heap.size w wr) := Below.then Hba.out t2 (Nat.le_refl _)
              clear t1 t2
              go_wp2
              go_ret
              exact ⟨rfl, Q.out⟩
          · have hi' : ¬ (i : Int) < kids.length := by omega
            have e : l = R := by rw [← t1, List.drop_eq_nil_of_le (by omega), properL]
            subst e
            have Q : Hid (Below w.heap.size w wr) := Below.then Hba.out t2 (Nat.le_refl _)
            clear t1 t2
            go_wp2
            go_ret
            exact ⟨rfl, Q.out⟩
end
end Go.Proofs.Ytjhfomfaddfklaa
namespace Go.Proofs.Ytjhfomfaddfklaa
open Go.RowKit Go.Deep
theorem properL_pos {l : List Pt} {left : Int} (h : 0 ≤ properL l left) : 0 ≤ left := by
  cases l with
  | nil => rw [properL] at h; exact h
  | cons x r =>
    rw [properL] at h
    split at h
    · assumption
    · exact h
mutual
theorem proper_good : ∀ (p : Pt) (left : Int), left ≤ 1000 → 0 ≤ properP p left → p.good = true ∧ (p.cons : Int) + properP p left ≤ left ∧ 1 + properP p left ≤ left
  | .mk k n o a s kids, left, hl, h => by
    rw [properP] at h ⊢
    split at h
    · rename_i hok
      rw [if_pos hok]
      obtain ⟨h1, h2, h3⟩ := properL_good kids (left - 1) (by omega) h
      refine ⟨?_, ?_, by omega⟩
      · rw [Pt.good, hok, h1]
        have : kids.length ≤ 1000 := by omega
        simp [this]
      · rw [Pt.cons]
        split <;> omega
    · omega
theorem properL_good : ∀ (l : List Pt) (left : Int), left ≤ 1000 → 0 ≤ properL l left → Pt.goodL l = true ∧ (Pt.consL l : Int) + properL l left ≤ left ∧ (l.length : Int) + properL l left ≤ left
  | [], left, _, h => by
    rw [properL, Pt.goodL, Pt.consL]
    simp
  | x :: r, left, hl, h => by
    have h0 := properL_pos h
    rw [properL, if_pos h0] at h ⊢
    have hx0 := properL_pos h
    obtain ⟨a1, a2, a3⟩ := proper_good x left hl hx0
    obtain ⟨b1, b2, b3⟩ := properL_good r (properP x left) (by omega) h
    refine ⟨by rw [Pt.goodL, a1, b1]; rfl, ?_, ?_⟩
    · rw [Pt.consL]
      omega
    · simp only [List.length_cons]
      omega
end
def rowLeft (len : Nat) (r : List Pt) (left : Int) : Int := properL r (if r.length = len then left else -1)
/-- The first row that may not be. -/
def argFrom (len : Nat) : List (List Pt) → Nat → Int → Option Nat
  | [], _, _ => none
  | r :: rs, i, left => if rowLeft len r left < 0 then some i else argFrom len rs (i + 1) (rowLeft len r left)
/-- What Useful answers. -/
def usefulAns (m : List (List Pt)) (q : List Pt) : Bool × Int × Int := match argFrom q.length (m ++ [q]) 0 150 with
  | some i => (false, 21, (i : Int))
  | none => (usefulF 151 m q, 0, 0)
theorem row_good {len : Nat} {r : List Pt} {left : Int} (hl : left ≤ 1000) (h : 0 ≤ rowLeft len r left) : r.length = len ∧ (∀ x ∈ r, x.good = true) ∧ (Pt.consL r : Int) + rowLeft len r left ≤ left ∧ (r.length : Int) + rowLeft len r left ≤ left := by
  unfold rowLeft at *
  split at h
  · rename_i he
    rw [if_pos he]
    obtain ⟨h1, h2, h3⟩ := properL_good r left hl h
    exact ⟨he, Pt.goodL_mem.1 h1, h2, h3⟩
  · have := properL_pos h
    omega
theorem arg_none {len : Nat} : ∀ (rs : List (List Pt)) (i : Nat) (left : Int), left ≤ 1000 → argFrom len rs i left = none → (∀ r ∈ rs, r.length = len ∧ ∀ x ∈ r, x.good = true) ∧ ((consM rs : Int) ≤ left ∨ rs = []) ∧ ((rs.length * len : Nat) : Int) ≤ left ∨ rs = []
  | [], _, _, _, _ => Or.inr rfl
  | r :: rs, i, left, hl, h => by
    rw [argFrom] at h
    split at h
    · cases h
    · rename_i hn
      obtain ⟨g1, g2, g3, g4⟩ := row_good (len := len) (r := r) (left := left) hl (by omega)
      left
      rcases arg_none rs (i + 1) (rowLeft len r left) (by omega) h with ⟨k1, k2, k3⟩ | rfl
      · refine ⟨fun s hs => ?_, Or.inl ?_, ?_⟩
        · rcases List.mem_cons.1 hs with rfl | hs
          · exact ⟨g1, g2⟩
          · exact k1 s hs
        · rcases k2 with k2 | rfl
          · simp only [consM]; omega
          · simp only [consM]; omega
        · rw [List.length_cons, Nat.add_mul, Nat.one_mul]
          omega
      · refine ⟨fun s hs => ?_, Or.inl ?_, ?_⟩
        · obtain rfl : s = r := by simpa using hs
          exact ⟨g1, g2⟩
        · simp only [consM]; omega
        · simp; omega
/-- Rows that may be are as they have to be. -/
theorem arg_rect {m : List (List Pt)} {q : List Pt} (h : argFrom q.length (m ++ [q]) 0 150 = none) (hq : q ≠ []) : Rect m q.length ∧ (∀ x ∈ q, x.good = true) ∧ consM m + Pt.consL q < 151 ∧ q.length ≤ 150 := by
  rcases arg_none (m ++ [q]) 0 150 (by omega) h with ⟨h1, h2, h3⟩ | h
  · have hlen : 0 < q.length := List.length_pos_iff.2 hq
    have hmul : (m ++ [q]).length ≤ (m ++ [q]).length * q.length := Nat.le_mul_of_pos_right _ hlen
    have hmul2 : q.length ≤ (m ++ [q]).length * q.length := Nat.le_mul_of_pos_left _ (by simp)
    simp only [List.length_append, List.length_cons, List.length_nil] at *
    refine ⟨⟨by omega, fun r hr => h1 r (by simp [hr])⟩, (h1 q (by simp)).2, ?_, by omega⟩
    rcases h2 with h2 | h2
    · rw [consM_app] at h2
      simp only [consM] at h2
      omega
    · simp at h2
  · simp at h
end Go.Proofs.Ytjhfomfaddfklaa
