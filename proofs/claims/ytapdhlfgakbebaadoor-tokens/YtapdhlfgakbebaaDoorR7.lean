import Derived.Test.YtapdhlfgakbebaaDoorR6
namespace Go.Proofs.YtapdhlfgakbebaaDoor
open Go.RowKit
set_option maxHeartbeats 1000000 in
set_option maxRecDepth 100000 in
theorem tokenRef_str (s : ByteArray) (a : Int) (w : World) (h0 : 0 ≤ a) (h1 : a < s.size) (hs : s.size ≤ 4000) (hl : a.toNat < s.size) (hc : (s[a.toNat]'hl).toNat = 34) :
    Calls Tryd.prog 18 #[.string s, .int .i64 a] w fun e w' => TokEnd a e (Lx.tokStr (s.data.toList.drop a.toNat)) ∧ Below w.heap.size w w' := by
  rw [tokStr_eq]
  have htx := fun w => textRef_any s a w h0 h1 hs
  generalize Lx.strA (s.data.toList.drop a.toNat).length [] 1 ((s.data.toList.drop a.toNat).drop 1) = R at *
  have Htx : Hid _ := htx
  clear htx
  have hdig : Lx.isDigit (s[a.toNat]'hl) = false := by rw [Bool.eq_false_iff]; intro q; have := (isDigit_iff _).1 q; omega
  have b34 : ((((s[a.toNat]'hl).toNat : Nat) : Int) == 34) = true := by rw [beq_iff_eq]; omega
  clear hc
  go_enter Tryd.func18, Tryd.ntmps18
  go_wp2_with (go_at_call 30; refine (digit_any _ _).mono ?_; rintro e w' ⟨rfl, rfl⟩)
  refine (Htx.out _).mono ?_
  rintro e w1 ⟨rfl, hb1⟩
  have h2 := (Two.first w 2 a { data := #[] } 0).keep hb1
  clear hb1
  obtain ⟨⟨a0, a1, a2, a3⟩, ⟨b0, b1, b2, b3⟩, ⟨c0, c1, c2, c3⟩, ⟨d0, d1, d2, d3⟩, hbw, hsz⟩ := h2
  cases R with
  | none =>
    simp only [strEnd]
    go_wp2
    refine bodyPost_ret (v := .tuple #[.agg #[.int .i64 2, .int .i64 a, .string { data := #[] }, .int .i64 0], .int .i64 (-1)]) (by simp [results, Tryd.results18, go_sem, *]) rfl ⟨⟨_, _, _, _, rfl⟩, ?_⟩
    repeat' first | exact hbw | apply Below.setCell | exact Nat.le_refl _ | exact Nat.le_succ _
  | some p =>
    obtain ⟨t, k⟩ := p
    simp only [strEnd]
    go_wp2
    refine bodyPost_ret (v := .tuple #[.agg #[.int .i64 2, .int .i64 a, .string { data := t.toArray }, .int .i64 0], .int .i64 (a + k)]) (by simp [results, Tryd.results18, go_sem, *]) rfl ⟨rfl, ?_⟩
    repeat' first | exact hbw | apply Below.setCell | exact Nat.le_refl _ | exact Nat.le_succ _
end Go.Proofs.YtapdhlfgakbebaaDoor
