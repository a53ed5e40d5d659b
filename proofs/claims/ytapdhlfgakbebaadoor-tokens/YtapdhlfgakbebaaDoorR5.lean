import Derived.Test.YtapdhlfgakbebaaDoorR4
import Derived.Test.YtapdhlfgakbebaaDoorW15
import Derived.Deep.QuietTactic
import Derived.BigQuiet
namespace Go.Proofs.YtapdhlfgakbebaaDoor
open Go.RowKit
/-- What a reader of a string answers: what it says, and the place behind it; or nothing and -1. -/
def strEnd (a : Int) : Option (List UInt8 × Nat) → Value
  | none => .tuple #[.string { data := #[] }, .int .i64 (-1)]
  | some (t, k) => .tuple #[.string { data := t.toArray }, .int .i64 (a + k)]
theorem out_step {t u : ByteArray} {acc : List UInt8} {b : UInt8} (Ht : t = { data := acc.toArray }) (hu : u = { data := [b].toArray }) : t ++ u = { data := (acc ++ [b]).toArray } := by
  rw [Ht, hu, ba_append]
theorem esc_short (l : List UInt8) (c : UInt8) (r : List UInt8) (hl : l = c :: r) (h : ∀ j, j < 4 → Lx.letters.getD j 0 ≠ c.toNat) (hf : (l.takeWhile Lx.isDigit).length < 3) : Lx.esc l = none := by
  subst hl
  exact esc_few c r h hf
theorem no_letter (c : UInt8) (h0 : c.toNat ≠ 110) (h1 : c.toNat ≠ 116) (h2 : c.toNat ≠ 92) (h3 : c.toNat ≠ 34) : ∀ j, j < 4 → Lx.letters.getD j 0 ≠ c.toNat := by
  intro j hj
  match j, hj with
  | 0, _ => exact fun e => h0 e.symm
  | 1, _ => exact fun e => h1 e.symm
  | 2, _ => exact fun e => h2 e.symm
  | 3, _ => exact fun e => h3 e.symm
theorem conv_one_drew (n : Int) (w : World) (q : Nat) (hn : 0 ≤ n ∧ n < 256) : (convert 34 9 (.slice (some ⟨w.heap.size, 0, none⟩) 1 1)).run Tryd.prog ((w.drewN q).alloc (.cells #[.int .u8 n] 5)) = .ok (.string { data := [UInt8.ofNat n.toNat].toArray }) ((w.drewN q).alloc (.cells #[.int .u8 n] 5)) := by
  refine run_convert_bytes_back _ 34 9 5 ⟨w.heap.size, 0, none⟩ 1 [UInt8.ofNat n.toNat] Tryd.underlying34 Tryd.underlying5 Tryd.underlying9 ?_
  intro j hj
  have hc := World.cell?_alloc_mark (w.drewN q) #[.int .u8 n] 5 (0, 0) j
  rw [show (w.drewN q).heap.size = w.heap.size from rfl] at hc
  rw [Addr.add_lit, Nat.zero_add, hc]
  match j, hj with
  | 0, _ =>
    have e : (UInt8.ofNat n.toNat).toNat = n.toNat := UInt8.toNat_ofNat_of_lt' (by show _ < 256; omega)
    simp only [List.getElem_cons_zero, e]
    rw [Int.toNat_of_nonneg hn.1]
    rfl
set_option maxHeartbeats 4000000 in
set_option maxRecDepth 100000 in
theorem textRef_any (s : ByteArray) (a : Int) (w : World) (h0 : 0 ≤ a) (h1 : a < s.size) (hs : s.size ≤ 4000) :
    Calls Tryd.prog 31 #[.string s, .int .i64 a] w fun e w' => e = .returned (strEnd a (Lx.strA (s.data.toList.drop a.toNat).length [] 1 ((s.data.toList.drop a.toNat).drop 1))) ∧ Below w.heap.size w w' := by
  have hfirst := st_first s a h0 h1
  generalize Lx.strA (s.data.toList.drop a.toNat).length [] 1 ((s.data.toList.drop a.toNat).drop 1) = R at *
  have Hf : Hid (StrState s a R 1 (a + 1) 1 []) := hfirst
  clear hfirst
  go_enter Tryd.func31, Tryd.ntmps31
  go_wp2_with fail
  go_loopw [1, 6] (fun i o wr => ∃ (x : Int) (k : Nat) (acc : List UInt8) (t : ByteArray), i = .int .i64 x ∧ o = .string t ∧ Below w.heap.size w wr ∧ Hid (t = { data := acc.toArray }) ∧ Hid (StrState s a R 1 x k acc)) (fun i _ _ => s.size - (intOf i).toNat)
  case atStart => exact ⟨a + 1, 1, [], _, rfl, rfl, Below.refl _ _, rfl, Hf⟩
  case round =>
    clear Hf
    rename_i wr
    obtain ⟨x, k, acc, t, rfl, rfl, hbe, Ht, Hst⟩ := hrel
    have hx0 := Hst.out.1
    have hx1 := Hst.out.2.1
    have hxk := Hst.out.2.2.1
    have hak := Hst.out.2.2.2.1
    have htsz : t.size = acc.length := by rw [Ht.out]; simp [ByteArray.size]
    have htl : t.size ≤ 4000 := by omega
    by_cases hxs : x < s.size
    · have hlt : x.toNat < s.size := by omega
      by_cases e34 : (s[x.toNat]'hlt).toNat = 34
      · have b34 : ((((s[x.toNat]'hlt).toNat : Nat) : Int) == 34) = true := by rw [beq_iff_eq]; omega
        have hR2 := (st_quote Hst.out hlt e34).2.2.2.2
        by_cases h200 : acc.length ≤ 200
        · have h200' : ¬ (200 : Int) < t.size := by omega
          rw [if_pos h200] at hR2
          have HR2 : Hid (strEnd a R = .tuple #[.string t, .int .i64 (x + 1)]) := by
            unfold Hid
            rw [hR2, hxk]
            simp only [strEnd]
            rw [Ht.out, show a + ((k + 1 : Nat) : Int) = a + (k : Int) + 1 from by omega]
          clear hR2 Hst Ht htsz hxk e34
          go_wp2
          go_ret2
          exact ⟨by rw [HR2.out]; rfl, hbe⟩
        · have h200' : (200 : Int) < t.size := by omega
          rw [if_neg h200] at hR2
          have HN : Hid (R = none) := hR2
          clear hR2 Hst Ht htsz hxk e34
          go_wp2
          go_ret2
          exact ⟨by rw [HN.out]; rfl, hbe⟩
      · have b34 : ((((s[x.toNat]'hlt).toNat : Nat) : Int) == 34) = false := by rw [beq_eq_false_iff_ne]; omega
        by_cases e32 : (s[x.toNat]'hlt).toNat < 32
        · have b32 : (((s[x.toNat]'hlt).toNat : Nat) : Int) < 32 := by omega
          have HN : Hid (R = none) := st_ctl Hst.out hlt e32
          clear Hst Ht htsz hxk e34
          go_wp2
          go_ret2
          exact ⟨by rw [HN.out]; rfl, hbe⟩
        · have b32 : ¬ (((s[x.toNat]'hlt).toNat : Nat) : Int) < 32 := by omega
          by_cases e92 : (s[x.toNat]'hlt).toNat = 92
          · have b92 : ((((s[x.toNat]'hlt).toNat : Nat) : Int) != 92) = false := by rw [bne_eq_false_iff_eq]; omega
            have hst3 := st_back Hst.out hlt e92
            clear Hst
            have hx3 := hst3.2.1
            by_cases hl1' : x + 1 < s.size
            · have hl1 : (x + 1).toNat < s.size := by omega
              have hdr := drop_at s (x + 1).toNat hl1
              by_cases e110 : (s[(x + 1).toNat]'hl1).toNat = 110
              · have b110 : ((((s[(x + 1).toNat]'hl1).toNat : Nat) : Int) == 110) = true := by rw [beq_iff_eq]; omega
                have hes := esc_hit 0 (by omega) (s[(x + 1).toNat]'hl1) (s.data.toList.drop ((x + 1).toNat + 1)) e110.symm
                rw [← hdr] at hes
                have HR : Hid (StrState s a R 1 (x + 1 + ((1 : Nat) : Int)) (k + 1 + 1) (acc ++ [10])) := st_esc_some hst3 hes
                clear hes hst3 hdr hxk htsz e92 e110
                go_wp2
                refine ⟨⟨x + 1 + ((1 : Nat) : Int), k + 1 + 1, acc ++ [10], _, val_int (by omega), rfl, hbe, out_step Ht.out rfl, HR⟩, by simp only [intOf]; omega⟩
              · have b110 : ((((s[(x + 1).toNat]'hl1).toNat : Nat) : Int) == 110) = false := by rw [beq_eq_false_iff_ne]; omega
                by_cases e116 : (s[(x + 1).toNat]'hl1).toNat = 116
                · have b116 : ((((s[(x + 1).toNat]'hl1).toNat : Nat) : Int) == 116) = true := by rw [beq_iff_eq]; omega
                  have hes := esc_hit 1 (by omega) (s[(x + 1).toNat]'hl1) (s.data.toList.drop ((x + 1).toNat + 1)) e116.symm
                  rw [← hdr] at hes
                  have HR : Hid (StrState s a R 1 (x + 1 + ((1 : Nat) : Int)) (k + 1 + 1) (acc ++ [9])) := st_esc_some hst3 hes
                  clear hes hst3 hdr hxk htsz e92 e116
                  go_wp2
                  refine ⟨⟨x + 1 + ((1 : Nat) : Int), k + 1 + 1, acc ++ [9], _, val_int (by omega), rfl, hbe, out_step Ht.out rfl, HR⟩, by simp only [intOf]; omega⟩
                · have b116 : ((((s[(x + 1).toNat]'hl1).toNat : Nat) : Int) == 116) = false := by rw [beq_eq_false_iff_ne]; omega
                  by_cases f34 : (s[(x + 1).toNat]'hl1).toNat = 34
                  · have c34 : ((((s[(x + 1).toNat]'hl1).toNat : Nat) : Int) == 34) = true := by rw [beq_iff_eq]; omega
                    have hes := esc_hit 3 (by omega) (s[(x + 1).toNat]'hl1) (s.data.toList.drop ((x + 1).toNat + 1)) f34.symm
                    rw [← hdr] at hes
                    have HR : Hid (StrState s a R 1 (x + 1 + ((1 : Nat) : Int)) (k + 1 + 1) (acc ++ [34])) := st_esc_some hst3 hes
                    have Hc : Hid (s[(x + 1).toNat]'hl1 = 34) := UInt8.toNat_inj.1 f34
                    clear hes hst3 hdr hxk htsz e92 f34
                    go_wp2
                    refine ⟨⟨x + 1 + ((1 : Nat) : Int), k + 1 + 1, acc ++ [34], _, val_int (by omega), rfl, hbe, out_step Ht.out ?_, HR⟩, by simp only [intOf]; omega⟩
                    rw [show (x + 2).toNat = (x + 1).toNat + 1 from by omega, extract_one s _ hl1, Hc.out]
                  · have c34 : ((((s[(x + 1).toNat]'hl1).toNat : Nat) : Int) == 34) = false := by rw [beq_eq_false_iff_ne]; omega
                    by_cases f92 : (s[(x + 1).toNat]'hl1).toNat = 92
                    · have c92 : ((((s[(x + 1).toNat]'hl1).toNat : Nat) : Int) == 92) = true := by rw [beq_iff_eq]; omega
                      have hes := esc_hit 2 (by omega) (s[(x + 1).toNat]'hl1) (s.data.toList.drop ((x + 1).toNat + 1)) f92.symm
                      rw [← hdr] at hes
                      have HR : Hid (StrState s a R 1 (x + 1 + ((1 : Nat) : Int)) (k + 1 + 1) (acc ++ [92])) := st_esc_some hst3 hes
                      have Hc : Hid (s[(x + 1).toNat]'hl1 = 92) := UInt8.toNat_inj.1 f92
                      clear hes hst3 hdr hxk htsz e92 f92
                      go_wp2
                      refine ⟨⟨x + 1 + ((1 : Nat) : Int), k + 1 + 1, acc ++ [92], _, val_int (by omega), rfl, hbe, out_step Ht.out ?_, HR⟩, by simp only [intOf]; omega⟩
                      rw [show (x + 2).toNat = (x + 1).toNat + 1 from by omega, extract_one s _ hl1, Hc.out]
                    · have c92 : ((((s[(x + 1).toNat]'hl1).toNat : Nat) : Int) == 92) = false := by rw [beq_eq_false_iff_ne]; omega
                      have hnl := no_letter (s[(x + 1).toNat]'hl1) e110 e116 f92 f34
                      by_cases h3 : x + 3 < s.size
                      · have hl2 : (x + 2).toNat < s.size := by omega
                        have hl3 : (x + 3).toNat < s.size := by omega
                        have hli : s.data.toList.drop (x + 1).toNat = (s[(x + 1).toNat]'hl1) :: (s[(x + 2).toNat]'hl2) :: (s[(x + 3).toNat]'hl3) :: s.data.toList.drop ((x + 3).toNat + 1) := by
                          rw [hdr, show (x + 1).toNat + 1 = (x + 2).toNat from by omega, drop_at s _ hl2, show (x + 2).toNat + 1 = (x + 3).toNat from by omega, drop_at s _ hl3]
                        have hfew : (Lx.isDigit (s[(x + 1).toNat]'hl1) && Lx.isDigit (s[(x + 2).toNat]'hl2) && Lx.isDigit (s[(x + 3).toNat]'hl3)) = false → ((s.data.toList.drop (x + 1).toNat).takeWhile Lx.isDigit).length < 3 := by
                          intro hf
                          rw [hli]
                          cases q1 : Lx.isDigit (s[(x + 1).toNat]'hl1)
                          · simp [q1]
                          · cases q2 : Lx.isDigit (s[(x + 2).toNat]'hl2)
                            · simp [q1, q2]
                            · have q3 : Lx.isDigit (s[(x + 3).toNat]'hl3) = false := by rw [q1, q2] at hf; simpa using hf
                              simp [q1, q2, q3]
                        have hnone : (Lx.isDigit (s[(x + 1).toNat]'hl1) && Lx.isDigit (s[(x + 2).toNat]'hl2) && Lx.isDigit (s[(x + 3).toNat]'hl3)) = false → Hid (R = none) := fun hf => st_esc_none hst3 (esc_short _ _ _ hdr hnl (hfew hf))
                        have Hnone : Hid _ := hnone
                        clear hfew hnone
                        cases q1 : Lx.isDigit (s[(x + 1).toNat]'hl1)
                        · have HN : Hid (R = none) := Hnone.out (by rw [q1]; rfl)
                          clear hst3 hdr hli hnl Hnone hxk htsz e92
                          go_wp2_with (go_at_call 30; refine (digit_any _ _).mono ?_; rintro e w' ⟨rfl, rfl⟩)
                          go_ret2
                          exact ⟨by rw [HN.out]; rfl, hbe⟩
                        · cases q2 : Lx.isDigit (s[(x + 2).toNat]'hl2)
                          · have HN : Hid (R = none) := Hnone.out (by rw [q1, q2]; rfl)
                            clear hst3 hdr hli hnl Hnone hxk htsz e92
                            go_wp2_with (go_at_call 30; refine (digit_any _ _).mono ?_; rintro e w' ⟨rfl, rfl⟩)
                            go_ret2
                            exact ⟨by rw [HN.out]; rfl, hbe⟩
                          · cases q3 : Lx.isDigit (s[(x + 3).toNat]'hl3)
                            · have HN : Hid (R = none) := Hnone.out (by rw [q1, q2, q3]; rfl)
                              clear hst3 hdr hli hnl Hnone hxk htsz e92
                              go_wp2_with (go_at_call 30; refine (digit_any _ _).mono ?_; rintro e w' ⟨rfl, rfl⟩)
                              go_ret2
                              exact ⟨by rw [HN.out]; rfl, hbe⟩
                            · have hes : Lx.esc (s.data.toList.drop (x + 1).toNat) = (if 100 * ((s[(x + 1).toNat]'hl1).toNat - 48) + 10 * ((s[(x + 2).toNat]'hl2).toNat - 48) + ((s[(x + 3).toNat]'hl3).toNat - 48) ≤ 255 then some (UInt8.ofNat (100 * ((s[(x + 1).toNat]'hl1).toNat - 48) + 10 * ((s[(x + 2).toNat]'hl2).toNat - 48) + ((s[(x + 3).toNat]'hl3).toNat - 48)), 3) else none) := by
                                rw [hli, esc_miss _ _ hnl]
                                show (if (Lx.isDigit _ && Lx.isDigit _ && Lx.isDigit _) = true then _ else none) = _
                                rw [q1, q2, q3, if_pos (show (true && true && true) = true from rfl)]
                              have r1 := (isDigit_iff _).1 q1
                              have r2 := (isDigit_iff _).1 q2
                              have r3 := (isDigit_iff _).1 q3
                              obtain ⟨n, hn⟩ : ∃ n, n = 100 * ((s[(x + 1).toNat]'hl1).toNat - 48) + 10 * ((s[(x + 2).toNat]'hl2).toNat - 48) + ((s[(x + 3).toNat]'hl3).toNat - 48) := ⟨_, rfl⟩
                              rw [← hn] at hes
                              have hnI : (100 * ((((s[(x + 1).toNat]'hl1).toNat : Nat) : Int) - 48) + 10 * ((((s[(x + 2).toNat]'hl2).toNat : Nat) : Int) - 48) + ((((s[(x + 3).toNat]'hl3).toNat : Nat) : Int) - 48)) = (n : Int) := by omega
                              have Hn : Hid _ := hn
                              by_cases h255 : n ≤ 255
                              · rw [if_pos h255] at hes
                                have HR : Hid (StrState s a R 1 (x + 1 + ((3 : Nat) : Int)) (k + 1 + 3) (acc ++ [UInt8.ofNat n])) := st_esc_some hst3 hes
                                have hcv := fun w q => conv_one_drew (100 * ((((s[(x + 1).toNat]'hl1).toNat : Nat) : Int) - 48) + 10 * ((((s[(x + 2).toNat]'hl2).toNat : Nat) : Int) - 48) + ((((s[(x + 3).toNat]'hl3).toNat : Nat) : Int) - 48)) w q (by omega)
                                have hle255 : ¬ 255 < (100 * ((((s[(x + 1).toNat]'hl1).toNat : Nat) : Int) - 48) + 10 * ((((s[(x + 2).toNat]'hl2).toNat : Nat) : Int) - 48) + ((((s[(x + 3).toNat]'hl3).toNat : Nat) : Int) - 48)) := by omega
                                clear hes hst3 hdr hli hnl Hnone hxk htsz e92 hnI hn
                                go_wp2_with (go_at_call 30; refine (digit_any _ _).mono ?_; rintro e w' ⟨rfl, rfl⟩)
                                go_quiet (fail)
                                go_wp2
                                refine ⟨⟨x + 1 + ((3 : Nat) : Int), k + 1 + 3, acc ++ [UInt8.ofNat n], _, val_int (by omega), rfl, (below_drewN hbe _).alloc hbe.size _, out_step Ht.out ?_, HR⟩, by simp only [intOf]; omega⟩
                                rw [Hn.out, UInt8.ofNat_add, UInt8.ofNat_add, UInt8.ofNat_mul, UInt8.ofNat_mul]
                                rfl
                              · rw [if_neg h255] at hes
                                have HN : Hid (R = none) := st_esc_none hst3 hes
                                have hle255 : 255 < (100 * ((((s[(x + 1).toNat]'hl1).toNat : Nat) : Int) - 48) + 10 * ((((s[(x + 2).toNat]'hl2).toNat : Nat) : Int) - 48) + ((((s[(x + 3).toNat]'hl3).toNat : Nat) : Int) - 48)) := by omega
                                clear hes hst3 hdr hli hnl Hnone hxk htsz e92 hnI hn
                                go_wp2_with (go_at_call 30; refine (digit_any _ _).mono ?_; rintro e w' ⟨rfl, rfl⟩)
                                go_quiet (fail)
                                go_wp2
                                go_ret2
                                exact ⟨by rw [HN.out]; rfl, below_drewN hbe _⟩
                      · have hf : ((s.data.toList.drop (x + 1).toNat).takeWhile Lx.isDigit).length < 3 := by
                          have := front_le Lx.isDigit (s.data.toList.drop (x + 1).toNat)
                          rw [drop_len] at this
                          omega
                        have HN : Hid (R = none) := st_esc_none hst3 (esc_short _ _ _ hdr hnl hf)
                        clear hst3 hdr hnl hf hxk htsz e92
                        go_wp2
                        go_ret2
                        exact ⟨by rw [HN.out]; rfl, hbe⟩
            · have hes : Lx.esc (s.data.toList.drop (x + 1).toNat) = none := by rw [drop_end s _ (by omega)]; rfl
              have HN : Hid (R = none) := st_esc_none hst3 hes
              clear hes hst3 hxk htsz e92
              go_wp2
              go_ret2
              exact ⟨by rw [HN.out]; rfl, hbe⟩
          · have b92 : ((((s[x.toNat]'hlt).toNat : Nat) : Int) != 92) = true := by rw [bne_iff_ne]; omega
            have HR : Hid (StrState s a R 1 (x + 1) (k + 1) (acc ++ [s[x.toNat]'hlt])) := st_char Hst.out hlt e32 e34 e92
            clear Hst htsz hxk e34 e92
            go_wp2
            refine ⟨⟨x + 1, k + 1, acc ++ [s[x.toNat]'hlt], _, rfl, rfl, hbe, ?_, HR⟩, ?_⟩
            · refine out_step Ht.out ?_
              rw [show (x + 1).toNat = x.toNat + 1 from by omega]
              exact extract_one s x.toNat hlt
            · simp only [intOf]
              omega
    · have HN : Hid (R = none) := st_end Hst.out (by omega)
      clear Hst Ht htsz hxk
      go_wp2
      go_ret2
      exact ⟨by rw [HN.out]; rfl, hbe⟩
end Go.Proofs.YtapdhlfgakbebaaDoor
