import Derived.Test.YtapdhlfgakbebaaDoorR6
import Derived.BigRegion
namespace Go.Proofs.YtapdhlfgakbebaaDoor
open Go.RowKit
theorem Two.num {w w1 : World} {k a : Int} {t : ByteArray} {n : Int} (h : Two w w1 k a t n) (n' : Int) : Two w (w1.setCell ⟨w.heap.size + 1, 3, none⟩ (.int .i64 n')) k a t n' := by
  obtain ⟨⟨a0, a1, a2, a3⟩, ⟨b0, b1, b2, b3⟩, ⟨c0, c1, c2, c3⟩, ⟨d0, d1, d2, d3⟩, hbw, hsz⟩ := h
  refine ⟨⟨?_, ?_, ?_, ?_⟩, ⟨?_, ?_, ?_, ?_⟩, ⟨?_, ?_, ?_, ?_⟩, ⟨?_, ?_, ?_, ?_⟩, hbw.setCell (by simp) _, by simpa using hsz⟩
  all_goals simp [go_sem, *]
theorem Two.drew {w w1 : World} {k a : Int} {t : ByteArray} {n : Int} (h : Two w w1 k a t n) : Two w w1.drew k a t n := by
  obtain ⟨⟨a0, a1, a2, a3⟩, ⟨b0, b1, b2, b3⟩, ⟨c0, c1, c2, c3⟩, ⟨d0, d1, d2, d3⟩, hbw, hsz⟩ := h
  exact ⟨⟨a0, a1, a2, a3⟩, ⟨b0, b1, b2, b3⟩, ⟨c0, c1, c2, c3⟩, ⟨d0, d1, d2, d3⟩, hbw.drew, hsz⟩
/-- What is known of a number while it is read: what it came to, how far. -/
def NumState (s : ByteArray) (a : Int) (N L k acc : Nat) : Prop :=
  acc ≤ 1000000001 ∧ N = Lx.num acc ((s.data.toList.drop (a + k).toNat).takeWhile Lx.isDigit) ∧ L = k + ((s.data.toList.drop (a + k).toNat).takeWhile Lx.isDigit).length
section
variable {s : ByteArray} {a : Int} {N L k acc : Nat}
theorem ns_end (h : NumState s a N L k acc) (hk : (s.size : Int) ≤ a + k) : N = acc ∧ L = k := by
  obtain ⟨_, h1, h2⟩ := h
  rw [drop_end s _ (by omega)] at h1 h2
  exact ⟨h1, by simpa using h2⟩
theorem ns_stop (h : NumState s a N L k acc) (hl : (a + k).toNat < s.size) (hc : Lx.isDigit (s[(a + k).toNat]'hl) = false) : N = acc ∧ L = k := by
  obtain ⟨_, h1, h2⟩ := h
  rw [drop_at s _ hl] at h1 h2
  simp only [List.takeWhile_cons, hc] at h1 h2
  exact ⟨h1, by simpa using h2⟩
theorem ns_step (h0 : 0 ≤ a) (h : NumState s a N L k acc) (hl : (a + k).toNat < s.size) (hc : Lx.isDigit (s[(a + k).toNat]'hl) = true) : NumState s a N L (k + 1) (min (10 * acc + ((s[(a + k).toNat]'hl).toNat - 48)) 1000000001) := by
  obtain ⟨h3, h1, h2⟩ := h
  rw [drop_at s _ hl] at h1 h2
  simp only [List.takeWhile_cons, hc, if_true, List.length_cons] at h1 h2
  rw [show (a + (k : Int)).toNat + 1 = (a + ((k + 1 : Nat) : Int)).toNat from by omega] at h1 h2
  exact ⟨Nat.min_le_right _ _, h1, by omega⟩
end
set_option maxHeartbeats 1000000 in
set_option maxRecDepth 100000 in
theorem tokenRef_num (s : ByteArray) (a : Int) (w : World) (h0 : 0 ≤ a) (h1 : a < s.size) (hs : s.size ≤ 4000) (hl : a.toNat < s.size) (hdig : Lx.isDigit (s[a.toNat]'hl) = true) :
    Calls Tryd.prog 18 #[.string s, .int .i64 a] w fun e w' => TokEnd a e (Lx.tokNum (s.data.toList.drop a.toNat)) ∧ Below w.heap.size w w' := by
  unfold Lx.tokNum
  have hst : NumState s a (Lx.num 0 ((s.data.toList.drop a.toNat).takeWhile Lx.isDigit)) ((s.data.toList.drop a.toNat).takeWhile Lx.isDigit).length 0 0 := by
    refine ⟨by omega, ?_, ?_⟩
    · simp
    · simp
  generalize Lx.num 0 ((s.data.toList.drop a.toNat).takeWhile Lx.isDigit) = N at *
  generalize ((s.data.toList.drop a.toNat).takeWhile Lx.isDigit).length = L at *
  have Hst : Hid (NumState s a N L 0 0) := hst
  clear hst
  generalize hR : (if 1000000000 < N then none else some ((⟨1, [], N⟩ : Lx.Tok), L)) = R
  have HR : Hid _ := hR
  clear hR
  go_enter Tryd.func18, Tryd.ntmps18
  go_wp2_with (go_at_call 30; refine (digit_any _ _).mono ?_; rintro e w' ⟨rfl, rfl⟩)
  have h2 : Hid _ := Two.first w 0 a { data := #[] } 0
  clear hdig
  go_loopw [7] (fun i wr => ∃ k acc : Nat, a + k ≤ s.size ∧ i = .int .i64 (a + k) ∧ acc ≤ 1000000001 ∧ Hid (Two w wr 0 a { data := #[] } acc) ∧ Hid (NumState s a N L k acc)) (fun i _ => s.size - (intOf i).toNat)
  case atStart => exact ⟨0, 0, by omega, val_int (by omega), by omega, h2, Hst⟩
  case round =>
    clear Hst h2
    rename_i wr
    obtain ⟨k, acc, hk, rfl, hacc, H2, Hs⟩ := hrel
    obtain ⟨⟨a0, a1, a2, a3⟩, ⟨b0, b1, b2, b3⟩, ⟨c0, c1, c2, c3⟩, ⟨d0, d1, d2, d3⟩, hbw, hsz⟩ := H2.out
    by_cases hlt : a + k < s.size
    · have hln : (a + k).toNat < s.size := by omega
      cases hd : Lx.isDigit (s[(a + k).toNat]'hln)
      · obtain ⟨hN, hL⟩ := ns_stop Hs.out hln hd
        have HN : Hid _ := hN
        have HL : Hid _ := hL
        clear hN hL Hs H2
        by_cases hbig : 1000000000 < acc
        · have hbig' : (1000000000 : Int) < acc := by omega
          have HR' : Hid (R = none) := by
            unfold Hid
            rw [← HR.out, HN.out, HL.out, if_pos hbig]
          clear HR HN HL
          go_wp2_with (go_at_call 30; refine (digit_any _ _).mono ?_; rintro e w' ⟨rfl, rfl⟩)
          refine bodyPost_ret (v := .tuple #[.agg #[.int .i64 1, .int .i64 a, .string { data := #[] }, .int .i64 acc], .int .i64 (-1)]) (by simp [results, Tryd.results18, go_sem, *]) rfl ⟨?_, ?_⟩
          · rw [HR'.out]
            exact ⟨_, _, _, _, rfl⟩
          · exact ((((hbw.setCell (Nat.le_succ _) _).setCell (Nat.le_refl _) _).setCell (Nat.le_refl _) _).setCell (Nat.le_refl _) _).setCell (Nat.le_refl _) _
        · have hbig' : ¬ (1000000000 : Int) < acc := by omega
          have HR' : Hid (R = some ((⟨1, [], acc⟩ : Lx.Tok), k)) := by
            unfold Hid
            rw [← HR.out, HN.out, HL.out, if_neg hbig]
          clear HR HN HL
          go_wp2_with (go_at_call 30; refine (digit_any _ _).mono ?_; rintro e w' ⟨rfl, rfl⟩)
          refine bodyPost_ret (v := .tuple #[.agg #[.int .i64 1, .int .i64 a, .string { data := #[] }, .int .i64 acc], .int .i64 (a + k)]) (by simp [results, Tryd.results18, go_sem, *]) rfl ⟨?_, ?_⟩
          · rw [HR'.out]
            rfl
          · exact ((((hbw.setCell (Nat.le_succ _) _).setCell (Nat.le_refl _) _).setCell (Nat.le_refl _) _).setCell (Nat.le_refl _) _).setCell (Nat.le_refl _) _
      · have hdd := (isDigit_iff _).1 hd
        have hn := ns_step h0 Hs.out hln hd
        clear Hs
        by_cases hbig : 1000000000 < 10 * acc + ((s[(a + k).toNat]'hln).toNat - 48)
        · rw [show min (10 * acc + ((s[(a + k).toNat]'hln).toNat - 48)) 1000000001 = 1000000001 from by omega] at hn
          have Hn : Hid (NumState s a N L (k + 1) 1000000001) := hn
          clear hn
          go_wp2_with (go_at_call 30; refine (digit_any _ _).mono ?_; rintro e w' ⟨rfl, rfl⟩)
          go_region
          go_wp2
          exact ⟨⟨k + 1, 1000000001, by omega, val_int (by omega), by omega, ((H2.out.num _).num _).drew, Hn⟩, by simp only [intOf]; omega⟩
        · rw [show min (10 * acc + ((s[(a + k).toNat]'hln).toNat - 48)) 1000000001 = 10 * acc + ((s[(a + k).toNat]'hln).toNat - 48) from by omega] at hn
          have Hn : Hid (NumState s a N L (k + 1) (10 * acc + ((s[(a + k).toNat]'hln).toNat - 48))) := hn
          clear hn
          have HC : Hid (((10 * acc + ((s[(a + k).toNat]'hln).toNat - 48) : Nat) : Int) = 10 * (acc : Int) + ((((s[(a + k).toNat]'hln).toNat : Nat) : Int) - 48)) := by
            unfold Hid
            omega
          go_wp2_with (go_at_call 30; refine (digit_any _ _).mono ?_; rintro e w' ⟨rfl, rfl⟩)
          go_region
          go_wp2
          refine ⟨⟨k + 1, 10 * acc + ((s[(a + k).toNat]'hln).toNat - 48), by omega, val_int (by omega), by omega, ?_, Hn⟩, by simp only [intOf]; omega⟩
          rw [HC.out]
          exact (H2.out.num _).drew
    · obtain ⟨hN, hL⟩ := ns_end Hs.out (by omega)
      have HN : Hid _ := hN
      have HL : Hid _ := hL
      clear hN hL Hs H2
      by_cases hbig : 1000000000 < acc
      · have hbig' : (1000000000 : Int) < acc := by omega
        have HR' : Hid (R = none) := by
          unfold Hid
          rw [← HR.out, HN.out, HL.out, if_pos hbig]
        clear HR HN HL
        go_wp2
        refine bodyPost_ret (v := .tuple #[.agg #[.int .i64 1, .int .i64 a, .string { data := #[] }, .int .i64 acc], .int .i64 (-1)]) (by simp [results, Tryd.results18, go_sem, *]) rfl ⟨?_, ?_⟩
        · rw [HR'.out]
          exact ⟨_, _, _, _, rfl⟩
        · exact ((((hbw.setCell (Nat.le_succ _) _).setCell (Nat.le_refl _) _).setCell (Nat.le_refl _) _).setCell (Nat.le_refl _) _).setCell (Nat.le_refl _) _
      · have hbig' : ¬ (1000000000 : Int) < acc := by omega
        have HR' : Hid (R = some ((⟨1, [], acc⟩ : Lx.Tok), k)) := by
          unfold Hid
          rw [← HR.out, HN.out, HL.out, if_neg hbig]
        clear HR HN HL
        go_wp2
        refine bodyPost_ret (v := .tuple #[.agg #[.int .i64 1, .int .i64 a, .string { data := #[] }, .int .i64 acc], .int .i64 (a + k)]) (by simp [results, Tryd.results18, go_sem, *]) rfl ⟨?_, ?_⟩
        · rw [HR'.out]
          rfl
        · exact ((((hbw.setCell (Nat.le_succ _) _).setCell (Nat.le_refl _) _).setCell (Nat.le_refl _) _).setCell (Nat.le_refl _) _).setCell (Nat.le_refl _) _
end Go.Proofs.YtapdhlfgakbebaaDoor
