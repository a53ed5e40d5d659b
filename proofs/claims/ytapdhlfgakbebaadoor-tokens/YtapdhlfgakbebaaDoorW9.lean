/-
  The walk of readEscape: the byte that an escape says and the place behind it, or none; nothing old changes.
-/
import Derived.Test.YtapdhlfgakbebaaDoorW8
import Derived.Deep.QuietTactic
import Derived.BigQuiet
namespace Go.Proofs.YtapdhlfgakbebaaDoor
open Go.RowKit
def Lx.letters : List Nat := [110, 116, 92, 34]
def Lx.says : List Nat := [10, 9, 92, 34]
theorem run_esc0 (w : World) : (Instr.index 45 (.agg escCells) (.int .i64 0)).run Tryd.prog w = .ok (.agg #[.int .u8 110, .int .u8 10]) w := by kernel_rfl
theorem run_esc1 (w : World) : (Instr.index 45 (.agg escCells) (.int .i64 1)).run Tryd.prog w = .ok (.agg #[.int .u8 116, .int .u8 9]) w := by kernel_rfl
theorem run_esc2 (w : World) : (Instr.index 45 (.agg escCells) (.int .i64 2)).run Tryd.prog w = .ok (.agg #[.int .u8 92, .int .u8 92]) w := by kernel_rfl
theorem run_esc3 (w : World) : (Instr.index 45 (.agg escCells) (.int .i64 3)).run Tryd.prog w = .ok (.agg #[.int .u8 34, .int .u8 34]) w := by kernel_rfl
theorem run_esc (k : Nat) (hk : k < 4) (w : World) : (Instr.index 45 (.agg escCells) (.int .i64 (k : Int))).run Tryd.prog w = .ok (.agg #[.int .u8 (Lx.letters.getD k 0 : Nat), .int .u8 (Lx.says.getD k 0 : Nat)]) w := by
  match k, hk with
  | 0, _ => exact run_esc0 w
  | 1, _ => exact run_esc1 w
  | 2, _ => exact run_esc2 w
  | 3, _ => exact run_esc3 w
theorem esc_hit (k : Nat) (hk : k < 4) (c : UInt8) (r : List UInt8) (h : Lx.letters.getD k 0 = c.toNat) : Lx.esc (c :: r) = some (UInt8.ofNat (Lx.says.getD k 0), 1) := by
  match k, hk with
  | 0, _ => rw [show c = 110 from UInt8.toNat_inj.1 h.symm]; rfl
  | 1, _ => rw [show c = 116 from UInt8.toNat_inj.1 h.symm]; rfl
  | 2, _ => rw [show c = 92 from UInt8.toNat_inj.1 h.symm]; rfl
  | 3, _ => rw [show c = 34 from UInt8.toNat_inj.1 h.symm]; rfl
theorem esc_miss (c : UInt8) (r : List UInt8) (h : ∀ j, j < 4 → Lx.letters.getD j 0 ≠ c.toNat) : Lx.esc (c :: r) = (match r with
      | a :: b :: _ =>
        if Lx.isDigit c && Lx.isDigit a && Lx.isDigit b then
          (if 100 * (c.toNat - 48) + 10 * (a.toNat - 48) + (b.toNat - 48) ≤ 255 then some (UInt8.ofNat (100 * (c.toNat - 48) + 10 * (a.toNat - 48) + (b.toNat - 48)), 3) else none)
        else none
      | _ => none) := by
  have e0 : c ≠ 110 := fun e => h 0 (by omega) (by rw [e]; rfl)
  have e1 : c ≠ 116 := fun e => h 1 (by omega) (by rw [e]; rfl)
  have e2 : c ≠ 92 := fun e => h 2 (by omega) (by rw [e]; rfl)
  have e3 : c ≠ 34 := fun e => h 3 (by omega) (by rw [e]; rfl)
  unfold Lx.esc
  simp only [e0, e1, e2, e3, if_false]
  cases r with
  | nil => rfl
  | cons x r => cases r <;> rfl

theorem three_digits : ∀ (l : List UInt8), ¬ (l.takeWhile Lx.isDigit).length < 3 → ∃ x y z t, l = x :: y :: z :: t ∧ Lx.isDigit x = true ∧ Lx.isDigit y = true ∧ Lx.isDigit z = true := by
  intro l h
  match l with
  | [] => simp at h
  | [x] => simp only [List.takeWhile_cons, List.takeWhile_nil] at h; split at h <;> simp at h
  | [x, y] =>
    simp only [List.takeWhile_cons, List.takeWhile_nil] at h
    split at h
    · split at h <;> simp at h
    · simp at h
  | x :: y :: z :: t =>
    simp only [List.takeWhile_cons] at h
    refine ⟨x, y, z, t, rfl, ?_⟩
    split at h
    · split at h
      · split at h
        · rename_i h1 h2 h3; exact ⟨h1, h2, h3⟩
        · simp at h
      · simp at h
    · simp at h
theorem esc_few (c : UInt8) (r : List UInt8) (h : ∀ j, j < 4 → Lx.letters.getD j 0 ≠ c.toNat) (hf : ((c :: r).takeWhile Lx.isDigit).length < 3) : Lx.esc (c :: r) = none := by
  rw [esc_miss c r h]
  match r with
  | [] => rfl
  | [x] => rfl
  | a :: b :: t =>
    show (if (Lx.isDigit c && Lx.isDigit a && Lx.isDigit b) = true then _ else none) = none
    rw [if_neg]
    intro hd
    simp only [Bool.and_eq_true] at hd
    obtain ⟨⟨h1, h2⟩, h3⟩ := hd
    simp only [List.takeWhile_cons, h1, h2, h3, if_true, List.length_cons] at hf
    omega
theorem val_int {k : IntKind} {a b : Int} (h : a = b) : Value.int k a = .int k b := by rw [h]
/-- What a reader of an escape answers. -/
def EscIs (a : Int) : Option (UInt8 × Nat) → Ending → Prop
  | none, e => ∃ x y : Int, e = .returned (.tuple #[.int .u8 x, .int .i64 y, .bool false])
  | some (b, k), e => e = .returned (.tuple #[.int .u8 (b.toNat : Int), .int .i64 (a + k), .bool true])

set_option maxHeartbeats 1000000 in
theorem readEscape_any (s : ByteArray) (a : Int) (w : World) (hL : Laid w) (h0 : 0 ≤ a) (h1 : a ≤ s.size) (hs : s.size ≤ 4000) (hA : ∀ i (h : i < s.size), (s[i]'h).toNat < 128) :
    Calls Tryd.prog 40 #[.string s, .int .i64 a] w fun e w' => EscIs a (Lx.esc (s.data.toList.drop a.toNat)) e ∧ Below w.heap.size w w' := by
  by_cases hend : a = s.size
  · rw [drop_end s a.toNat (by omega)]
    have hge : (s.size : Int) ≤ a := by omega
    go_enter Tryd.func40, Tryd.ntmps40
    go_wp2
    all_goals go_ret3
    all_goals exact ⟨⟨_, _, rfl⟩, Below.refl _ _⟩
  · have hlt : a.toNat < s.size := by omega
    have hge : ¬ (s.size : Int) ≤ a := by omega
    obtain ⟨t0, fr0, hg0⟩ := hL.esc
    have Hg0 : Hid _ := hg0
    clear hg0
    go_enter Tryd.func40, Tryd.ntmps40
    go_wp2_with (refine wpList_load_row rfl 45 _ rfl 0 rfl t0 _ fr0 _ Hg0.out Tryd.underlying45 rfl (by kernel_rfl) ?_)
    go_loopw [19] (fun i w' => ∃ k : Nat, k ≤ 4 ∧ i = .int .i64 k ∧ Below w.heap.size w w' ∧ Hid (∀ j, j < k → Lx.letters.getD j 0 ≠ (s[a.toNat]'hlt).toNat)) (fun i _ => 4 - (intOf i).toNat)
    case atStart => exact ⟨0, by omega, rfl, Below.refl _ _, fun j hj => by omega⟩
    case round =>
      rename_i wr
      obtain ⟨k, hk, rfl, hbe, Hn⟩ := hrel
      by_cases hk4 : k < 4
      · have hix := fun w => run_esc k hk4 w
        have Heh : Hid _ := esc_hit k hk4 (s[a.toNat]'hlt) (s.data.toList.drop (a.toNat + 1))
        have hls : Lx.letters.getD k 0 < 256 ∧ Lx.says.getD k 0 < 256 := by
          match k, hk4 with
          | 0, _ => decide
          | 1, _ => decide
          | 2, _ => decide
          | 3, _ => decide
        generalize hlk : Lx.letters.getD k 0 = lk at *
        generalize hsk : Lx.says.getD k 0 = sk at *
        have Hlk : Hid _ := hlk
        clear hlk hsk
        by_cases hhit : lk = (s[a.toNat]'hlt).toNat
        · have hb : ((lk : Int) == ((s[a.toNat]'hlt).toNat : Int)) = true := by rw [beq_iff_eq]; omega
          go_wp2_with fail
          go_quiet (fail)
          go_wp2
          go_ret3
          refine ⟨?_, ?_⟩
          · rw [drop_at s _ hlt, Heh.out hhit]
            show Ending.returned _ = Ending.returned _
            rw [UInt8.toNat_ofNat_of_lt' (by simpa using hls.2)]
            rfl
          · exact below_drewN (hbe.alloc hbe.size _) _
        · have hb : ((lk : Int) == ((s[a.toNat]'hlt).toNat : Int)) = false := by rw [beq_eq_false_iff_ne]; omega
          go_wp2_with fail
          go_quiet (fail)
          go_wp2
          refine ⟨⟨k + 1, by omega, by go_num, below_drewN (hbe.alloc hbe.size _) _, ?_⟩, by simp [intOf]; omega⟩
          intro j hj
          by_cases hjk : j = k
          · rw [hjk, Hlk.out]; exact hhit
          · exact Hn.out j (by omega)
      · have Hm : Hid (∀ j, j < 4 → Lx.letters.getD j 0 ≠ (s[a.toNat]'hlt).toNat) := fun j hj => Hn.out j (by omega)
        clear Hn
        go_wp2_with fail
        refine (span_any s _ _ _ (by omega) (by omega) hs hA).mono ?_
        rintro e w1 ⟨rfl, hb1⟩
        rw [inS_digit]
        have hb2 := Below.then hbe hb1 (Nat.le_refl _)
        clear hb1 hbe
        by_cases hn3 : ((s.data.toList.drop a.toNat).takeWhile Lx.isDigit).length < 3
        · have Hno : Hid (Lx.esc (s.data.toList.drop a.toNat) = none) := by
            unfold Hid
            rw [drop_at s _ hlt] at hn3 ⊢
            exact esc_few _ _ Hm.out hn3
          have hn3' : a + ((((s.data.toList.drop a.toNat).takeWhile Lx.isDigit).length : Nat) : Int) < a + 3 := by omega
          go_wp2
          go_ret3
          refine ⟨?_, hb2⟩
          rw [Hno.out]
          exact ⟨_, _, rfl⟩
        · have hn3' : ¬ a + ((((s.data.toList.drop a.toNat).takeWhile Lx.isDigit).length : Nat) : Int) < a + 3 := by omega
          have hfl := front_le Lx.isDigit (s.data.toList.drop a.toNat)
          rw [drop_len] at hfl
          obtain ⟨x, y, z, t, hxyz, hx, hy, hz⟩ := three_digits _ hn3
          have Hx : Hid _ := hxyz
          clear hxyz
          have hx' := (isDigit_iff x).1 hx
          have hy' := (isDigit_iff y).1 hy
          have hz' := (isDigit_iff z).1 hz
          have hdg : Hid ((Lx.isDigit x && Lx.isDigit y && Lx.isDigit z) = true) := by unfold Hid; rw [hx, hy, hz]; rfl
          clear hx hy hz
          have HT : Hid (s.extract a.toNat (a + 3).toNat = { data := #[x, y, z] }) := by
            unfold Hid
            rw [piece, Hx.out, show (a + 3).toNat - a.toNat = 3 from by omega]
            rfl
          have Hes : Hid (Lx.esc (s.data.toList.drop a.toNat) = (if 100 * (x.toNat - 48) + 10 * (y.toNat - 48) + (z.toNat - 48) ≤ 255 then some (UInt8.ofNat (100 * (x.toNat - 48) + 10 * (y.toNat - 48) + (z.toNat - 48)), 3) else none)) := by
            unfold Hid
            have hd := drop_at s _ hlt
            have e0 : s[a.toNat]'hlt = x := by rw [Hx.out] at hd; exact (List.cons.inj hd).1.symm
            have hm := Hm.out
            rw [e0] at hm
            rw [Hx.out, esc_miss x (y :: z :: t) hm]
            show (if (Lx.isDigit x && Lx.isDigit y && Lx.isDigit z) = true then _ else none) = _
            rw [if_pos hdg.out]
          clear hdg Hx Hm
          go_wp2_with fail
          rw [HT.out]
          have hbi : ∀ p, Below w.heap.size w (w1.iter { data := #[x, y, z] } p) := fun p => hb2.alloc hb2.size _
          have HB : Hid _ := hbi
          clear hbi hb2
          generalize hT : ({ data := #[x, y, z] } : ByteArray) = T at *
          have hTs : T.size = 3 := by rw [← hT]; rfl
          have hT0 : ∀ h, (T[0]'h) = x := by intro h; subst hT; rfl
          have hT1 : ∀ h, (T[1]'h) = y := by intro h; subst hT; rfl
          have hT2 : ∀ h, (T[2]'h) = z := by intro h; subst hT; rfl
          clear hT
          go_loopw [10] (fun n w' => ∃ (pos acc : Nat), w' = w1.iter T pos ∧ n = .int .i64 acc ∧ ((pos = 0 ∧ acc = 0) ∨ (pos = 1 ∧ acc = x.toNat - 48) ∨ (pos = 2 ∧ acc = 10 * (x.toNat - 48) + (y.toNat - 48)) ∨ (pos = 3 ∧ acc = 100 * (x.toNat - 48) + 10 * (y.toNat - 48) + (z.toNat - 48)))) (fun _ w' => 3 - w'.iterPos w1.heap.size)
          case atStart => exact ⟨0, 0, rfl, rfl, Or.inl ⟨rfl, rfl⟩⟩
          case round =>
            obtain ⟨pos, acc, rfl, rfl, hac⟩ := hrel
            rcases hac with ⟨rfl, rfl⟩ | ⟨rfl, hac⟩ | ⟨rfl, hac⟩ | ⟨rfl, hac⟩
            · have hnx := fun ty => next_ascii (P := Tryd.prog) w1 w1.heap.size rfl T 0 ty (by omega) (by rw [hT0]; omega)
              rw [hT0] at hnx
              go_wp2
              exact ⟨⟨1, x.toNat - 48, rfl, val_int (by omega), Or.inr (Or.inl ⟨rfl, rfl⟩)⟩, by rw [iter_pos _ _ rfl, iter_pos _ _ rfl]; omega⟩
            · have hnx := fun ty => next_ascii (P := Tryd.prog) w1 w1.heap.size rfl T 1 ty (by omega) (by rw [hT1]; omega)
              rw [hT1] at hnx
              have Hac : Hid _ := hac
              have hab : acc ≤ 9 := by omega
              clear hac
              go_wp2
              have hac := Hac.out
              exact ⟨⟨2, 10 * (x.toNat - 48) + (y.toNat - 48), rfl, val_int (by omega), Or.inr (Or.inr (Or.inl ⟨rfl, rfl⟩))⟩, by rw [iter_pos _ _ rfl, iter_pos _ _ rfl]; omega⟩
            · have hnx := fun ty => next_ascii (P := Tryd.prog) w1 w1.heap.size rfl T 2 ty (by omega) (by rw [hT2]; omega)
              rw [hT2] at hnx
              have Hac : Hid _ := hac
              have hab : acc ≤ 99 := by omega
              clear hac
              go_wp2
              have hac := Hac.out
              exact ⟨⟨3, 100 * (x.toNat - 48) + 10 * (y.toNat - 48) + (z.toNat - 48), rfl, val_int (by omega), Or.inr (Or.inr (Or.inr ⟨rfl, rfl⟩))⟩, by rw [iter_pos _ _ rfl, iter_pos _ _ rfl]; omega⟩
            · have hnx := fun ty => next_end (P := Tryd.prog) w1 w1.heap.size rfl T 3 ty (by omega)
              have Hac : Hid _ := hac
              have hab : acc ≤ 999 := by omega
              clear hac
              by_cases hbig : acc ≤ 255
              · have hbig' : (acc : Int) ≤ 255 := by omega
                go_wp2
                go_ret3
                refine ⟨?_, HB.out _⟩
                rw [Hes.out, ← Hac.out, if_pos hbig]
                show Ending.returned _ = Ending.returned _
                rw [UInt8.toNat_ofNat_of_lt' (by simpa using (show acc < 256 by omega))]
                rfl
              · have hbig' : ¬ (acc : Int) ≤ 255 := by omega
                go_wp2
                go_ret3
                refine ⟨?_, HB.out _⟩
                rw [Hes.out, ← Hac.out, if_neg hbig]
                exact ⟨_, _, rfl⟩
end Go.Proofs.YtapdhlfgakbebaaDoor
