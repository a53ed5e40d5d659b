/-
  The walks of both Quotes: each writes the string as the plain words say; nothing old changes.
-/
import Derived.Test.YtapdhlfgakbebaaDoorW14
namespace Go.Proofs.YtapdhlfgakbebaaDoor
open Go.RowKit
theorem ba_append (a b : List UInt8) : ({ data := a.toArray } : ByteArray) ++ { data := b.toArray } = { data := (a ++ b).toArray } := by
  apply ByteArray.ext
  simp [ByteArray.data_append]
theorem extract_one (s : ByteArray) (k : Nat) (h : k < s.size) : s.extract k (k + 1) = { data := [s[k]].toArray } := by
  rw [piece, drop_at s k h, show k + 1 - k = 1 from by omega]
  rfl
theorem q_step {t u : ByteArray} {A B Q : List UInt8} (Ht : t = { data := (34 :: A).toArray }) (Hst : B = A ++ Q) (hu : u = { data := Q.toArray }) : t ++ u = { data := (34 :: B).toArray } := by
  rw [Ht, hu, ba_append, Hst]
  rfl
theorem conv_three (c : UInt8) (w : World) : (convert 34 9 (.slice (some ⟨w.heap.size, 0, none⟩) 3 3)).run Tryd.prog (w.alloc (.cells #[.int .u8 (48 + (c.toNat : Int) / 100), .int .u8 (48 + (c.toNat : Int) / 10 % 10), .int .u8 (48 + (c.toNat : Int) % 10)] 5)) = .ok (.string { data := [UInt8.ofNat (48 + c.toNat / 100), UInt8.ofNat (48 + c.toNat / 10 % 10), UInt8.ofNat (48 + c.toNat % 10)].toArray }) (w.alloc (.cells #[.int .u8 (48 + (c.toNat : Int) / 100), .int .u8 (48 + (c.toNat : Int) / 10 % 10), .int .u8 (48 + (c.toNat : Int) % 10)] 5)) := by
  have hc := c.toNat_lt
  refine run_convert_bytes_back _ 34 9 5 ⟨w.heap.size, 0, none⟩ 3 [UInt8.ofNat (48 + c.toNat / 100), UInt8.ofNat (48 + c.toNat / 10 % 10), UInt8.ofNat (48 + c.toNat % 10)] Tryd.underlying34 Tryd.underlying5 Tryd.underlying9 ?_
  intro j hj
  rw [Addr.add_lit, Nat.zero_add, World.cell?_alloc_mark]
  match j, hj with
  | 0, _ => simp; omega
  | 1, _ => simp; omega
  | 2, _ => simp; omega
theorem quoted_le (l : List UInt8) : (l.flatMap Lx.qb).length ≤ 4 * l.length := by
  induction l with
  | nil => simp
  | cons c r ih =>
    have := qb_le c
    simp only [List.flatMap_cons, List.length_append, List.length_cons]
    omega
theorem take_at (s : ByteArray) (k : Nat) (h : k < s.size) : s.data.toList.take (k + 1) = s.data.toList.take k ++ [s[k]] := by
  rw [List.take_succ_eq_append_getElem (by simpa [← Lib.size_eq] using h)]; rfl
theorem quoted_step (s : ByteArray) (k : Nat) (h : k < s.size) : (s.data.toList.take (k + 1)).flatMap Lx.qb = (s.data.toList.take k).flatMap Lx.qb ++ Lx.qb s[k] := by
  rw [take_at s k h]; simp
set_option maxHeartbeats 1000000 in
set_option maxRecDepth 100000 in
theorem quote_any (s : ByteArray) (w : World) (hL : Laid w) (hs : s.size ≤ 1048576) :
    Calls Tryd.prog 7 #[.string s] w fun e w' => e = .returned (.string { data := (Lx.quote s.data.toList).toArray }) ∧ Below w.heap.size w w' := by
  obtain ⟨i0, hi, hz0, hz1, hz2⟩ := info_parts info5
  have Hi : Hid _ := hi
  clear hi
  go_enter Tryd.func7, Tryd.ntmps7
  go_wp2_with fail
  go_loopw [3, 8] (fun v i wr => ∃ k : Nat, k ≤ s.size ∧ i = .int .i64 k ∧ wr.ownsRow w.heap.size 5 1 v (34 :: (s.data.toList.take k).flatMap Lx.qb).length (Lib.byteCells (34 :: (s.data.toList.take k).flatMap Lx.qb)) ∧ Below w.heap.size w wr) (fun _ i _ => s.size - (intOf i).toNat)
  case atStart => exact ⟨0, by omega, rfl, World.ownsRow_lit w #[.int .u8 34] 1 (Nat.le_refl _) (by unfold maxLen; omega) rfl, (Below.refl _ _).alloc (Nat.le_refl _) _⟩
  case round =>
    rename_i wr
    obtain ⟨k, hk, rfl, hown, hbe⟩ := hrel
    have hLr : Laid wr := hL.keep hbe hL.two
    have hle := quoted_le (s.data.toList.take k)
    rw [List.length_take, ← Lib.size_eq] at hle
    by_cases hlt : k < s.size
    · have hst := quoted_step s k hlt
      have Hst : Hid _ := hst
      clear hst
      generalize (s.data.toList.take k).flatMap Lx.qb = acc at *
      go_wp2_with fail
      refine (appendQuoted_any (s[k]'hlt) u3 (34 :: acc) w.heap.size _ hLr hbe.size hown (by simp; omega)).mono ?_
      rintro e w1 ⟨v', rfl, hown1, hb1⟩
      have hbe1 := hbe.trans hb1
      go_wp2
      refine ⟨⟨k + 1, by omega, by go_num, ?_, hbe1⟩, by simp [intOf]; omega⟩
      rw [Hst.out]
      exact hown1
    · have hk2 : k = s.size := by omega
      have Hq : Hid (34 :: (s.data.toList.take k).flatMap Lx.qb ++ [34] = Lx.quote s.data.toList) := by
        unfold Hid Lx.quote
        rw [hk2, Lib.size_eq, List.take_length]
        rfl
      clear hk2
      have hi := Hi.out
      generalize (s.data.toList.take k).flatMap Lx.qb = acc at *
      go_wp2_with (at_builtin; refine wpList_append_own _ rfl _ _ 34 rfl w.heap.size 5 i0 (.int .u8 0) 1 1 Tryd.underlying34 hi hz0 hz1 hz2 rfl (by decide) _ _ _ rfl (hown.alloc _) ⟨wr.heap.size, 0, none⟩ 1 1 [.int .u8 34] rfl rfl (cell_one_new _ _ _) (ints_oneCell .u8 [34]) (by unfold maxLen; simp; omega) (by simp; omega) (by have := hbe.size; simp; omega) ?_)
      intro v' w5 hown5 hg5 _
      have hbe5 := (hbe.alloc hbe.size (Obj.cells #[Value.int IntKind.u8 34] 5)).grown hg5 (by have := hbe.size; simp; omega) (fun q hq => (hown.lt q hq).1)
      have hown6 : w5.ownsRow w.heap.size 5 1 v' (Lx.quote s.data.toList).length (Lib.byteCells (Lx.quote s.data.toList)) := by
        rw [← Hq.out, Lib.byteCells_append, List.length_append]
        exact hown5
      obtain ⟨n, cap, g, rfl, hn, hcv⟩ := str_convert hown6
      have hcv9 := hcv 9 Tryd.underlying9
      clear hcv hown5 hg5 hown6 hi hn
      go_wp2
      go_ret
      exact ⟨rfl, hbe5⟩
set_option maxHeartbeats 1000000 in
set_option maxRecDepth 100000 in
theorem refQuote_any (s : ByteArray) (w : World) (hs : s.size ≤ 1048576) :
    Calls Tryd.prog 8 #[.string s] w fun e w' => e = .returned (.string { data := (Lx.quote s.data.toList).toArray }) ∧ Below w.heap.size w w' := by
  go_enter Tryd.func8, Tryd.ntmps8
  go_wp2_with fail
  go_loopw [3, 4] (fun q i wr => ∃ (k : Nat) (t : ByteArray), k ≤ s.size ∧ i = .int .i64 k ∧ q = .string t ∧ Below w.heap.size w wr ∧ Hid (t = { data := (34 :: (s.data.toList.take k).flatMap Lx.qb).toArray })) (fun _ i _ => s.size - (intOf i).toNat)
  case atStart => exact ⟨0, _, by omega, rfl, rfl, Below.refl _ _, rfl⟩
  case round =>
    rename_i wr
    obtain ⟨k, t, hk, rfl, rfl, hbe, Ht⟩ := hrel
    have hle := quoted_le (s.data.toList.take k)
    rw [List.length_take, ← Lib.size_eq] at hle
    have htl : t.size ≤ 4194305 := by
      rw [Ht.out]
      show (34 :: (s.data.toList.take k).flatMap Lx.qb).toArray.size ≤ _
      rw [List.size_toArray, List.length_cons]
      omega
    by_cases hlt : k < s.size
    · have hst := quoted_step s k hlt
      have Hst : Hid _ := hst
      clear hst
      have hc256 : (((s[k]'hlt).toNat : Nat) : Int) < 256 := by have := (s[k]'hlt).toNat_lt; omega
      by_cases e10 : (s[k]'hlt).toNat = 10
      · have b10 : (((((s[k]'hlt).toNat : Nat) : Int)) == 10) = true := by rw [beq_iff_eq]; omega
        have Hq : Hid _ := qb_hit 0 (by omega) (s[k]'hlt) e10.symm
        clear e10
        go_wp2_with fail
        exact ⟨⟨k + 1, _, by omega, by go_num, rfl, hbe, q_step Ht.out Hst.out (by rw [Hq.out]; rfl)⟩, by simp [intOf]; omega⟩
      · have b10 : (((((s[k]'hlt).toNat : Nat) : Int)) == 10) = false := by rw [beq_eq_false_iff_ne]; omega
        by_cases e9 : (s[k]'hlt).toNat = 9
        · have b9 : (((((s[k]'hlt).toNat : Nat) : Int)) == 9) = true := by rw [beq_iff_eq]; omega
          have Hq : Hid _ := qb_hit 1 (by omega) (s[k]'hlt) e9.symm
          clear e9
          go_wp2_with fail
          exact ⟨⟨k + 1, _, by omega, by go_num, rfl, hbe, q_step Ht.out Hst.out (by rw [Hq.out]; rfl)⟩, by simp [intOf]; omega⟩
        · have b9 : (((((s[k]'hlt).toNat : Nat) : Int)) == 9) = false := by rw [beq_eq_false_iff_ne]; omega
          by_cases e34 : (s[k]'hlt).toNat = 34
          · have b34 : (((((s[k]'hlt).toNat : Nat) : Int)) == 34) = true := by rw [beq_iff_eq]; omega
            have Hq : Hid _ := qb_hit 3 (by omega) (s[k]'hlt) e34.symm
            have Hc : Hid (s[k] = 34) := UInt8.toNat_inj.1 e34
            clear e34
            go_wp2_with fail
            refine ⟨⟨k + 1, _, by omega, by go_num, rfl, hbe, ?_⟩, by simp [intOf]; omega⟩
            rw [ByteArray.append_assoc]
            exact q_step Ht.out Hst.out (by rw [Hq.out, extract_one s k hlt, Hc.out]; exact ba_append [92] [34])
          · have b34 : (((((s[k]'hlt).toNat : Nat) : Int)) == 34) = false := by rw [beq_eq_false_iff_ne]; omega
            by_cases e92 : (s[k]'hlt).toNat = 92
            · have b92 : (((((s[k]'hlt).toNat : Nat) : Int)) == 92) = true := by rw [beq_iff_eq]; omega
              have Hq : Hid _ := qb_hit 2 (by omega) (s[k]'hlt) e92.symm
              have Hc : Hid (s[k] = 92) := UInt8.toNat_inj.1 e92
              clear e92
              go_wp2_with fail
              refine ⟨⟨k + 1, _, by omega, by go_num, rfl, hbe, ?_⟩, by simp [intOf]; omega⟩
              rw [ByteArray.append_assoc]
              exact q_step Ht.out Hst.out (by rw [Hq.out, extract_one s k hlt, Hc.out]; exact ba_append [92] [92])
            · have b92 : (((((s[k]'hlt).toNat : Nat) : Int)) == 92) = false := by rw [beq_eq_false_iff_ne]; omega
              have Hq0 : Hid _ := qb_miss (s[k]'hlt) (by
                intro j hj
                match j, hj with
                | 0, _ => exact fun e => e10 e.symm
                | 1, _ => exact fun e => e9 e.symm
                | 2, _ => exact fun e => e92 e.symm
                | 3, _ => exact fun e => e34 e.symm)
              by_cases hctl : (s[k]'hlt).toNat < 32 ∨ 126 < (s[k]'hlt).toNat
              · rw [if_pos hctl] at Hq0
                have hcv := fun w => conv_three (s[k]'hlt) w
                go_wp2_with fail
                all_goals refine ⟨⟨k + 1, _, by omega, by go_num, rfl, hbe.alloc hbe.size _, ?_⟩, by simp [intOf]; omega⟩
                all_goals rw [ByteArray.append_assoc]
                all_goals exact q_step Ht.out Hst.out (by rw [Hq0.out, UInt8.ofNat_add, UInt8.ofNat_add, UInt8.ofNat_add]; exact ba_append [92] _)
              · rw [if_neg hctl] at Hq0
                have h32 : ¬ (((s[k]'hlt).toNat : Nat) : Int) < 32 := by omega
                have h126 : ¬ 126 < (((s[k]'hlt).toNat : Nat) : Int) := by omega
                go_wp2_with fail
                exact ⟨⟨k + 1, _, by omega, by go_num, rfl, hbe, q_step Ht.out Hst.out (by rw [Hq0.out, extract_one s k hlt])⟩, by simp [intOf]; omega⟩
    · have hk2 : k = s.size := by omega
      have Hq : Hid (34 :: (s.data.toList.take k).flatMap Lx.qb ++ [34] = Lx.quote s.data.toList) := by
        unfold Hid Lx.quote
        rw [hk2, Lib.size_eq, List.take_length]
        rfl
      clear hk2
      go_wp2
      go_ret
      refine ⟨?_, hbe⟩
      show Ending.returned (Value.string (t ++ { data := #[34] })) = _
      rw [Ht.out, ← Hq.out]
      exact ret_val (by rw [show (#[34] : Array UInt8) = [34].toArray from rfl, ba_append])
end Go.Proofs.YtapdhlfgakbebaaDoor
