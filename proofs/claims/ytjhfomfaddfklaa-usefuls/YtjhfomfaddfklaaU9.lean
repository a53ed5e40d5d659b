/-
  The document's layer matches: does each value begin with one of these (whole)?
-/
import Derived.Test.YtjhfomfaddfklaaU8
namespace Go.Proofs.Ytjhfomfaddfklaa
open Go.RowKit Go.Deep
def thereP (l : List Pt) (n : Nat) : Bool := l.any fun y => decide (y.k = 6) && decide (y.n = n)
/-- Does each value begin with one of these? -/
def wholeP : List Pt → Bool
  | [] => false
  | h :: t => if h.k = 5 then true else if h.k = 6 then (List.range h.o.toNat).all (thereP (h :: t)) else false
theorem range_split (n : Nat) (g : Nat → Bool) {i : Nat} (hi : i < n) (h : g i = false) : (List.range n).all g = false := by
  rw [List.all_eq_false]
  exact ⟨i, by simpa using hi, by simp [h]⟩
theorem any_take {l : List Pt} {n : Nat} {j : Nat} (h : thereP (l.take j) n = true) : thereP l n = true := by
  unfold thereP at *
  rw [List.any_eq_true] at *
  obtain ⟨x, hx, hh⟩ := h
  exact ⟨x, List.mem_of_mem_take hx, hh⟩
theorem there_next {l : List Pt} {n j : Nat} (hj : j < l.length) (h : thereP (l.take j) n = false) : thereP (l.take (j + 1)) n = (decide ((l[j]'hj).k = 6) && decide ((l[j]'hj).n = n)) := by
  unfold thereP at *
  rw [List.take_succ_eq_append_getElem hj, List.any_append, h]
  simp
section
set_option maxHeartbeats 8000000
set_option maxRecDepth 100000
theorem whole_any (wb w : World) (p : Option Addr) (cap : Nat) (l : List Pt) (hp : RowAt wb w p l) :
    Calls Try.prog 37 #[.slice p l.length cap] w fun e w' => e = .returned (.bool (wholeP l)) ∧ w' = w := by
  have hml := hp.len
  unfold maxLen at hml
  have Hp : Hid (RowAt wb w p l) := hp
  by_cases h0 : l.length = 0
  · have : l = [] := List.eq_nil_of_length_eq_zero h0
    subst this
    clear hp Hp
    go_enter Try.func37, Try.ntmps37
    go_wp2
    go_ret
    exact ⟨rfl, rfl⟩
  · have h0' : 0 < l.length := by omega
    have h0b : ((l.length : Int) == 0) = false := by rw [beq_eq_false_iff_ne]; omega
    obtain ⟨b, o, c, rfl, hc6, hx⟩ := hp.get 0 h0'
    simp only [Nat.zero_mul, Nat.add_zero] at hc6
    obtain ⟨e1, e2, e3, _, _, _, _⟩ := hx.parts
    have hsm := hx.small
    obtain ⟨ck, cn, co, ca, cs, cp, cl, cc⟩ := c
    obtain ⟨d0, d1, d2, d3, d4, d5⟩ := hc6
    have hbl := World.block_lt_of_cell? _ _ d0
    simp only at d0 d1 d2 d3 d4 d5 e1 e2 e3 hsm
    have hW : wholeP l = (if ck = 5 then true else if ck = 6 then (List.range co.toNat).all (thereP l) else false) := by
      cases l with
      | nil => cases h0'
      | cons y t =>
        simp only [List.getElem_cons_zero] at e1 e2 e3
        rw [wholeP, e1, e3]
    clear hp hx h0 d1 d3 d4 d5
    by_cases h5 : ck = 5
    · have b5 : (ck != 5) = false := by simpa using h5
      have b5' : (ck == 5) = true := by simpa using h5
      rw [hW, if_pos h5]
      clear hW h5 e1
      go_enter Try.func37, Try.ntmps37
      go_wp2
      go_ret
      exact ⟨rfl, rfl⟩
    · have b5 : (ck != 5) = true := by simpa using h5
      have b5' : (ck == 5) = false := by simpa using h5
      by_cases h6 : ck = 6
      · have b6 : (ck != 6) = false := by simpa using h6
        rw [hW, if_neg h5, if_pos h6]
        have HW : Hid (∀ n, n < co.toNat → thereP l n = false → (List.range co.toNat).all (thereP l) = false) := fun n hn h => range_split _ _ hn h
        obtain ⟨W, hW2⟩ : ∃ W, (List.range co.toNat).all (thereP l) = W := ⟨_, rfl⟩
        have HW2 : Hid ((List.range co.toNat).all (thereP l) = W) := hW2
        rw [hW2] at HW ⊢
        clear hW h5 h6 e1 hW2
        generalize hcn : co.toNat = N at *
        clear e2 e3
        go_enter Try.func37, Try.ntmps37
        go_wp2_with fail
        go_loopg [3] N (fun g nv wr => ∃ (n : Nat), nv = .int .i64 n ∧ n ≤ N ∧ g = N - n ∧ wr = w ∧ Hid (∀ k, k < n → thereP l k = true))
        case atStart => exact ⟨0, rfl, by omega, by omega, rfl, fun k hk => by omega⟩
        case round =>
          obtain ⟨n, rfl, hn1, rfl, rfl, HK⟩ := hrel
          by_cases hn : n < N
          · have hn' : (n : Int) < co := by omega
            go_upto_block 2 with fail
            obtain ⟨T, hT⟩ : ∃ T, thereP l n = T := ⟨_, rfl⟩
            have HT : Hid (thereP l n = T) := hT
            clear hT
            go_cut [4] from 28 to 62 (fun v wx => Hid (v = .bool T ∧ wx = wr))
            case first =>
              go_wp2_with fail
              go_loopg [4, 5] l.length (fun g v iv wy => ∃ (j : Nat) (tb : Bool), v = .bool tb ∧ iv = .int .i64 j ∧ j ≤ l.length ∧ g = l.length - j ∧ wy = wr ∧ Hid (tb = thereP (l.take j) n))
              case atStart => exact ⟨0, false, rfl, rfl, by omega, by omega, rfl, rfl⟩
              case round =>
                obtain ⟨j, tb, rfl, rfl, hj1, rfl, hwy, HJ⟩ := hrel
                subst hwy
                rename World => wy
                by_cases hj : j < l.length
                · have hj' : (j : Int) < l.length := by omega
                  cases tb with
                  | true =>
                    have hTt : T = true := by rw [← HT.out]; exact any_take HJ.out.symm
                    subst hTt
                    go_wp2
                    go_meet
                    exact ⟨rfl, rfl⟩
                  | false =>
                    obtain ⟨b', o', cj, hbo, hcj, hPj⟩ := Hp.out.get j hj
                    simp only [Option.some.injEq, Addr.mk.injEq, and_true] at hbo
                    obtain ⟨rfl, rfl⟩ := hbo
                    obtain ⟨p1, p2, _, _, _, _, _⟩ := hPj.parts
                    have Hnx : Hid (thereP (l.take (j + 1)) n = (decide (cj.k = 6) && decide (cj.n = n))) := by unfold Hid; rw [there_next hj HJ.out.symm, p1, p2]
                    obtain ⟨x0, x1, _, _, _, _⟩ := hcj
                    obtain ⟨jk, jn, jo, ja, js, jp, jl, jc⟩ := cj
                    simp only at x0 x1 p1 p2
                    have Hnx2 : Hid (thereP (l.take (j + 1)) n = (decide (jk = 6) && decide (jn = n))) := Hnx.out
                    clear hPj p1 p2 HJ Hnx
                    by_cases hk6 : jk = 6
                    · have hk6' : (jk == 6) = true := by simpa using hk6
                      have Q : Hid ((jn == (n : Int)) = thereP (l.take (j + 1)) n) := by unfold Hid; rw [Hnx2.out, beq_dec]; simp [hk6]
                      clear hk6 Hnx2
                      go_wp2
                      go_roundg (l.length - (j + 1))
                      case measure => omega
                      case rel => exact ⟨j + 1, _, rfl, by first | rfl | (congr 1; omega) | go_num, by omega, rfl, rfl, Q⟩
                    · have hk6' : (jk == 6) = false := by simpa using hk6
                      have Q : Hid (false = thereP (l.take (j + 1)) n) := by unfold Hid; rw [Hnx2.out]; simp [hk6]
                      clear hk6 Hnx2
                      go_wp2
                      go_roundg (l.length - (j + 1))
                      case measure => omega
                      case rel => exact ⟨j + 1, _, rfl, by first | rfl | (congr 1; omega) | go_num, by omega, rfl, rfl, Q⟩
                · have hj' : ¬ (j : Int) < l.length := by omega
                  have hTt : tb = T := by
                    have := HJ.out
                    rw [List.take_of_length_le (by omega)] at this
                    rw [this]
                    exact HT.out
                  subst hTt
                  clear HJ
                  go_wp2
                  go_meet
                  exact ⟨rfl, rfl⟩
            case rest =>
              obtain ⟨rfl, hw9⟩ := hcut.out
              subst hw9
              clear hcut
              cases T with
              | true =>
                have Q : Hid (∀ k, k < n + 1 → thereP l k = true) := fun k hk => by
                  rcases Nat.lt_or_ge k n with h | h
                  · exact HK.out k h
                  · obtain rfl : k = n := by omega
                    exact HT.out
                go_wp2
                go_roundg (N - (n + 1))
                case measure => omega
                case rel => exact ⟨n + 1, by first | rfl | (congr 1; omega) | go_num, by omega, rfl, rfl, Q⟩
              | false =>
                have hWf := HW.out n hn HT.out
                subst hWf
                go_wp2
                go_ret
                exact ⟨rfl, rfl⟩
          · have hn' : ¬ (n : Int) < co := by omega
            have hWt : W = true := by
              rw [← HW2.out, List.all_eq_true]
              intro k hk
              exact HK.out k (by have := List.mem_range.1 hk; omega)
            subst hWt
            go_wp2
            go_ret
            exact ⟨rfl, rfl⟩
      · have b6 : (ck != 6) = true := by simpa using h6
        rw [hW, if_neg h5, if_neg h6]
        clear hW h5 h6 e1
        go_enter Try.func37, Try.ntmps37
        go_wp2
        go_ret
        exact ⟨rfl, rfl⟩
end
end Go.Proofs.Ytjhfomfaddfklaa
