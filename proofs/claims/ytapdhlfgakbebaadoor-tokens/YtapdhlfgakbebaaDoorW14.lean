/-
  The walk of appendQuoted: a byte is laid behind what stands there as it stands in a string's token.
-/
import Derived.Test.YtapdhlfgakbebaaDoorW13
namespace Go.Proofs.YtapdhlfgakbebaaDoor
open Go.RowKit
/-- A byte as it stands in a string's token. -/
def Lx.qb (c : UInt8) : List UInt8 :=
  if c = 10 then [92, 110] else if c = 9 then [92, 116] else if c = 92 then [92, 92] else if c = 34 then [92, 34]
  else if c.toNat < 32 ∨ 126 < c.toNat then [92, UInt8.ofNat (48 + c.toNat / 100), UInt8.ofNat (48 + c.toNat / 10 % 10), UInt8.ofNat (48 + c.toNat % 10)] else [c]
def Lx.quote (l : List UInt8) : List UInt8 := 34 :: (l.flatMap Lx.qb ++ [34])
theorem qb_hit (k : Nat) (hk : k < 4) (c : UInt8) (h : Lx.says.getD k 0 = c.toNat) : Lx.qb c = [92, UInt8.ofNat (Lx.letters.getD k 0)] := by
  match k, hk with
  | 0, _ => rw [show c = 10 from UInt8.toNat_inj.1 h.symm]; rfl
  | 1, _ => rw [show c = 9 from UInt8.toNat_inj.1 h.symm]; rfl
  | 2, _ => rw [show c = 92 from UInt8.toNat_inj.1 h.symm]; rfl
  | 3, _ => rw [show c = 34 from UInt8.toNat_inj.1 h.symm]; rfl
theorem qb_miss (c : UInt8) (h : ∀ j, j < 4 → Lx.says.getD j 0 ≠ c.toNat) : Lx.qb c = if c.toNat < 32 ∨ 126 < c.toNat then [92, UInt8.ofNat (48 + c.toNat / 100), UInt8.ofNat (48 + c.toNat / 10 % 10), UInt8.ofNat (48 + c.toNat % 10)] else [c] := by
  have e0 : c ≠ 10 := fun e => h 0 (by omega) (by rw [e]; rfl)
  have e1 : c ≠ 9 := fun e => h 1 (by omega) (by rw [e]; rfl)
  have e2 : c ≠ 92 := fun e => h 2 (by omega) (by rw [e]; rfl)
  have e3 : c ≠ 34 := fun e => h 3 (by omega) (by rw [e]; rfl)
  unfold Lx.qb
  rw [if_neg e0, if_neg e1, if_neg e2, if_neg e3]
theorem qb_cells (c : UInt8) : Lib.byteCells [92, UInt8.ofNat (48 + c.toNat / 100), UInt8.ofNat (48 + c.toNat / 10 % 10), UInt8.ofNat (48 + c.toNat % 10)] = [.int .u8 92, .int .u8 (48 + (c.toNat : Int) / 100), .int .u8 (48 + (c.toNat : Int) / 10 % 10), .int .u8 (48 + (c.toNat : Int) % 10)] := by
  have := c.toNat_lt
  have h1 : (UInt8.ofNat (48 + c.toNat / 100)).toNat = 48 + c.toNat / 100 := UInt8.toNat_ofNat_of_lt' (by show _ < 256; omega)
  have h2 : (UInt8.ofNat (48 + c.toNat / 10 % 10)).toNat = 48 + c.toNat / 10 % 10 := UInt8.toNat_ofNat_of_lt' (by show _ < 256; omega)
  have h3 : (UInt8.ofNat (48 + c.toNat % 10)).toNat = 48 + c.toNat % 10 := UInt8.toNat_ofNat_of_lt' (by show _ < 256; omega)
  simp only [Lib.byteCells, List.map_cons, List.map_nil, h1, h2, h3]
  rfl
theorem qb_le (c : UInt8) : (Lx.qb c).length ≤ 4 := by
  unfold Lx.qb
  repeat' split
  all_goals simp

theorem cells_new_at (W : World) (k : Nat) (hk : W.heap.size = k) (cs : List Value) (t : TypeId) : ∀ j u, cs[j]? = some u → (W.alloc (.cells cs.toArray t)).cell? ((⟨k, 0, none⟩ : Addr).add j) = some u := by
  subst hk; exact cells_of_new W cs t
set_option maxHeartbeats 1000000 in
set_option maxRecDepth 100000 in
theorem appendQuoted_any (c : UInt8) (v : Value) (acc : List UInt8) (base : Nat) (w : World) (hL : Laid w) (hbase : base ≤ w.heap.size) (hown : w.ownsRow base 5 1 v acc.length (Lib.byteCells acc)) (hlen : acc.length ≤ 100000000) :
    Calls Tryd.prog 12 #[v, .int .u8 (c.toNat : Int)] w fun e w' => ∃ v', e = .returned v' ∧ w'.ownsRow base 5 1 v' (acc ++ Lx.qb c).length (Lib.byteCells (acc ++ Lx.qb c)) ∧ Below base w w' := by
  have hc256 : ((c.toNat : Nat) : Int) < 256 := by have := c.toNat_lt; omega
  obtain ⟨i0, hi, hz0, hz1, hz2⟩ := info_parts info5
  obtain ⟨t0, fr0, hg0⟩ := hL.esc
  have Hg0 : Hid _ := hg0
  clear hg0
  go_enter Tryd.func12, Tryd.ntmps12
  go_wp2_with (refine wpList_load_row rfl 45 _ rfl 0 rfl t0 _ fr0 _ Hg0.out Tryd.underlying45 rfl (by kernel_rfl) ?_)
  clear Hg0
  go_loopw [8] (fun i w' => ∃ k : Nat, k ≤ 4 ∧ i = .int .i64 k ∧ Below w.heap.size w w' ∧ Hid (∀ j, j < k → Lx.says.getD j 0 ≠ c.toNat)) (fun i _ => 4 - (intOf i).toNat)
  case atStart => exact ⟨0, by omega, rfl, Below.refl _ _, fun j hj => by omega⟩
  case round =>
    rename_i wr
    obtain ⟨k, hk, rfl, hbe, Hn⟩ := hrel
    have hownr := owns_keep hown hbe
    have hszr := hbe.size
    by_cases hk4 : k < 4
    · have hix := fun w => run_esc k hk4 w
      have Heh : Hid _ := qb_hit k hk4 c
      have hls : Lx.letters.getD k 0 < 256 ∧ Lx.says.getD k 0 < 256 := by
        match k, hk4 with
        | 0, _ => decide
        | 1, _ => decide
        | 2, _ => decide
        | 3, _ => decide
      generalize hlk : Lx.letters.getD k 0 = lk at *
      generalize hsk : Lx.says.getD k 0 = sk at *
      have Hsk : Hid _ := hsk
      clear hlk hsk
      by_cases hhit : sk = c.toNat
      · have hb : ((sk : Int) == (c.toNat : Int)) = true := by rw [beq_iff_eq]; omega
        have Hq : Hid _ := Heh.out hhit
        clear Heh
        go_wp2_with (at_builtin; refine wpList_append_own _ rfl _ _ 34 rfl base 5 i0 (.int .u8 0) 1 1 Tryd.underlying34 hi hz0 hz1 hz2 rfl (by decide) _ _ _ rfl ((hownr.alloc _).alloc _) ⟨wr.heap.size + 1, 0, none⟩ 2 2 [.int .u8 92, .int .u8 (lk : Int)] rfl rfl (cells_new_at _ _ (by simp) _ _) (ints_oneCell .u8 [92, (lk : Int)]) (by unfold maxLen; omega) (by omega) (by simp; omega) ?_)
        intro v' w5 hown5 hg5 _
        have hbe5 := ((hbe.alloc hbe.size (Obj.cells #[Value.int IntKind.u8 (lk : Int), Value.int IntKind.u8 (c.toNat : Int)] 44)).alloc (by simp; omega) (Obj.cells #[Value.int IntKind.u8 92, Value.int IntKind.u8 (lk : Int)] 5)).mono hbase |>.grown hg5 (by simp; omega) (fun q hq => (hown.lt q hq).1)
        go_wp2
        go_ret
        refine ⟨v', rfl, ?_, hbe5⟩
        rw [Hq.out, Lib.byteCells_append, List.length_append]
        have e : Lib.byteCells [92, UInt8.ofNat lk] = [.int .u8 92, .int .u8 (lk : Int)] := by
          simp only [Lib.byteCells, List.map_cons, List.map_nil]
          rw [UInt8.toNat_ofNat_of_lt' (by simpa using hls.1)]
          rfl
        rw [e]
        exact hown5
      · have hb : ((sk : Int) == (c.toNat : Int)) = false := by rw [beq_eq_false_iff_ne]; omega
        go_wp2
        refine ⟨⟨k + 1, by omega, by go_num, hbe.alloc hbe.size _, ?_⟩, by simp [intOf]; omega⟩
        intro j hj
        by_cases hjk : j = k
        · rw [hjk, Hsk.out]; exact hhit
        · exact Hn.out j (by omega)
    · have Hm : Hid _ := qb_miss c (fun j hj => Hn.out j (by omega))
      clear Hn
      by_cases hctl : c.toNat < 32 ∨ 126 < c.toNat
      · rw [if_pos hctl] at Hm
        go_wp2_with (at_builtin; refine wpList_append_own _ rfl _ _ 34 rfl base 5 i0 (.int .u8 0) 1 1 Tryd.underlying34 hi hz0 hz1 hz2 rfl (by decide) _ _ _ rfl (hownr.alloc _) ⟨wr.heap.size, 0, none⟩ 4 4 [.int .u8 92, .int .u8 ((48 + c.toNat / 100 : Nat) : Int), .int .u8 ((48 + c.toNat / 10 % 10 : Nat) : Int), .int .u8 ((48 + c.toNat % 10 : Nat) : Int)] rfl rfl (cells_new_at _ _ (by simp) _ _) (ints_oneCell .u8 [92, ((48 + c.toNat / 100 : Nat) : Int), ((48 + c.toNat / 10 % 10 : Nat) : Int), ((48 + c.toNat % 10 : Nat) : Int)]) (by unfold maxLen; omega) (by omega) (by simp; omega) ?_)
        all_goals intro v' w5 hown5 hg5 _
        all_goals have hbe5 := ((hbe.alloc hbe.size (Obj.cells #[Value.int IntKind.u8 92, Value.int IntKind.u8 (48 + (c.toNat : Int) / 100), Value.int IntKind.u8 (48 + (c.toNat : Int) / 10 % 10), Value.int IntKind.u8 (48 + (c.toNat : Int) % 10)] 5))).mono hbase |>.grown hg5 (by simp; omega) (fun q hq => (hown.lt q hq).1)
        all_goals go_wp2
        all_goals go_ret
        all_goals refine ⟨v', rfl, ?_, hbe5⟩
        all_goals rw [Hm.out, Lib.byteCells_append, List.length_append]
        all_goals rw [qb_cells]
        all_goals exact hown5
      · rw [if_neg hctl] at Hm
        have h32 : ¬ (c.toNat : Int) < 32 := by omega
        have h126 : ¬ 126 < (c.toNat : Int) := by omega
        go_wp2_with (at_builtin; refine wpList_append_own _ rfl _ _ 34 rfl base 5 i0 (.int .u8 0) 1 1 Tryd.underlying34 hi hz0 hz1 hz2 rfl (by decide) _ _ _ rfl (hownr.alloc _) ⟨wr.heap.size, 0, none⟩ 1 1 [.int .u8 (c.toNat : Int)] rfl rfl (cells_new_at _ _ (by simp) _ _) (ints_oneCell .u8 [(c.toNat : Int)]) (by unfold maxLen; omega) (by omega) (by simp; omega) ?_)
        intro v' w5 hown5 hg5 _
        have hbe5 := ((hbe.alloc hbe.size (Obj.cells #[Value.int IntKind.u8 (c.toNat : Int)] 5))).mono hbase |>.grown hg5 (by simp; omega) (fun q hq => (hown.lt q hq).1)
        go_wp2
        go_ret
        refine ⟨v', rfl, ?_, hbe5⟩
        rw [Hm.out, Lib.byteCells_append, List.length_append]
        exact hown5

end Go.Proofs.YtapdhlfgakbebaaDoor
