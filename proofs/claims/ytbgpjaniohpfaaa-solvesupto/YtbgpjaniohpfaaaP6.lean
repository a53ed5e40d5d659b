/-
  The second reader of types: the variables of a type, behind those of a list.
-/
import Derived.Test.YtbgpjaniohpfaaaP5
namespace Go.Proofs.Ytbgpjaniohpfaaa
open Go.RowKit
open Go.Proofs.Ytbgpjaniohpfaaa
theorem infoP3 : (Try.prog.info? 3).map (fun i => (i.zero, i.size, i.bytes)) = some (some (.int .i64 0), 1, 8) := by kernel_rfl
theorem info_parts {t : TypeId} {z : Option Value} {n b : Nat} (h : (Try.prog.info? t).map (fun i => (i.zero, i.size, i.bytes)) = some (z, n, b)) : ∃ i, Try.prog.info? t = some i ∧ i.zero = z ∧ i.size = n ∧ i.bytes = b := by
  cases hi : Try.prog.info? t with
  | none => rw [hi] at h; cases h
  | some i =>
    rw [hi] at h
    simp only [Option.map_some, Option.some.injEq, Prod.mk.injEq] at h
    exact ⟨i, rfl, h.1, h.2.1, h.2.2⟩
theorem cell_new (w : World) (u : Value) (t : TypeId) : ∀ j x, [u][j]? = some x → (w.alloc (.cells #[u] t)).cell? ((⟨w.heap.size, 0, none⟩ : Addr).add j) = some x := by
  intro j x h
  rw [Addr.add_lit, Nat.zero_add, World.cell?_alloc_mark]
  simpa using h
section
set_option maxHeartbeats 2000000
set_option maxRecDepth 100000
theorem vars_any : ∀ (T : Ty) (w0 w : World) (cs : List Value) (l : List Int) (v : Value) (base : Nat), TyIn w0 cs T → w0.heap.size ≤ base → base ≤ w.heap.size → Below w0.heap.size w0 w → w.ownsRow base 3 1 v l.length (intCells l) → l.length + T.count ≤ 1000000000 →
    Calls Try.prog 22 #[v, .agg cs.toArray] w fun e w' => ∃ v', e = .returned v' ∧ w'.ownsRow base 3 1 v' (T.vars l).length (intCells (T.vars l)) ∧ Onto w w' v v' := by
  intro T
  induction T using Ty.ind with
  | h k n s e l ih =>
    intro w0 w cs L v base hT hw0 hbase hbw hown hlen
    obtain ⟨p, cap, rfl, hl1, hl2, hel⟩ := hT.elem
    have Hel : Hid _ := hel
    have Hih : Hid _ := ih
    clear hel ih hT
    unfold maxLen at hl1
    obtain ⟨i0, hi, hz0, hz1, hz2⟩ := info_parts infoP3
    have hvlt : ∀ g, v.ownBlock = some g → g < w.heap.size := fun g hg => (hown.lt g hg).2
    have hob := Onto.of_below ((Below.refl w.heap.size w).alloc (Nat.le_refl _) (Obj.cells #[Value.int IntKind.i64 k, Value.int IntKind.i64 n, Value.string s, Value.int IntKind.i64 e, Value.slice p l.length cap] 33)) v
    by_cases hk : k = 0
    · have bk := beq_t hk
      have hhas := fun w hown => has_any L v n base w hown (by omega)
      have Hhas : Hid _ := hhas
      clear hhas
      cases hin : L.contains n
      · have hR := Ty.vars_new k n s e l L hk hin
        rw [hR, intCells_snoc]
        clear hR hk
        go_enter Try.func22, Try.ntmps22
        go_wp2_with fail
        refine (Hhas.out _ (hown.alloc _)).mono ?_
        rintro e w1 ⟨rfl, rfl⟩
        rw [hin]
        go_wp2_with (at_builtin; refine wpList_append_own_at _ rfl _ _ 60 rfl base 3 i0 (.int .i64 0) 1 8 Try.underlying60 hi hz0 hz1 hz2 rfl (by decide) _ _ _ rfl ((hown.alloc _).alloc _) ⟨w.heap.size + 1, 0, none⟩ 1 1 [.int .i64 n] rfl rfl ?cc (by simp [Value.oneCell']) (by unfold maxLen; omega) (by omega) (by simp; omega) ?_)
        case cc =>
          have h := cell_new (w.alloc (Obj.cells #[Value.int IntKind.i64 k, Value.int IntKind.i64 n, Value.string s, Value.int IntKind.i64 e, Value.slice p l.length cap] 33)) (.int .i64 n) 3
          rw [show (w.alloc (Obj.cells #[Value.int IntKind.i64 k, Value.int IntKind.i64 n, Value.string s, Value.int IntKind.i64 e, Value.slice p l.length cap] 33)).heap.size = w.heap.size + 1 from by simp] at h
          exact h
        intro v' w5 hown5 hg5 _ hr5
        go_wp2
        go_ret
        refine ⟨v', rfl, ?_, hob.trans ((Onto.of_below ((Below.refl _ _).alloc (Nat.le_refl _) _) v).trans (Onto.append hg5 (by simpa using hr5)))⟩
        rw [List.length_append]
        exact hown5
      · have hR := Ty.vars_in k n s e l L hk hin
        rw [hR]
        clear hR hk
        go_enter Try.func22, Try.ntmps22
        go_wp2_with fail
        refine (Hhas.out _ (hown.alloc _)).mono ?_
        rintro e w1 ⟨rfl, rfl⟩
        rw [hin]
        go_wp2
        go_ret
        exact ⟨v, rfl, hown.alloc _, hob⟩
    · have bk := beq_f hk
      have hR := Ty.vars_args k n s e l L hk
      rw [hR]
      clear hR hk
      have hcnt : L.length + Ty.countL (l.drop 0) ≤ 1000000000 := by
        have : (Ty.mk k n s e l).count = 1 + Ty.countL l := by rw [Ty.count]
        rw [List.drop_zero]
        omega
      clear hlen
      generalize hRR : Ty.varsL L (l.drop 0) = R
      have HR : Hid (R = Ty.varsL L (l.drop 0)) := hRR.symm
      clear hRR
      go_enter Try.func22, Try.ntmps22
      go_wp2_with fail
      obtain ⟨_, _, _, _, a4, _, hz⟩ := boxed (w := w) (k := k) (n := n) (s := s) (e := e) (v := .slice p l.length cap) 33 (Below.refl _ _)
      have hown3 := hown.alloc (Obj.cells #[Value.int IntKind.i64 k, Value.int IntKind.i64 n, Value.string s, Value.int IntKind.i64 e, Value.slice p l.length cap] 33)
      have hb03 : Below w0.heap.size w0 (w.alloc (Obj.cells #[Value.int IntKind.i64 k, Value.int IntKind.i64 n, Value.string s, Value.int IntKind.i64 e, Value.slice p l.length cap] 33)) := hbw.alloc (by omega) _
      generalize (w.alloc (Obj.cells #[Value.int IntKind.i64 k, Value.int IntKind.i64 n, Value.string s, Value.int IntKind.i64 e, Value.slice p l.length cap] 33)) = w3 at *
      have Ha4 : Hid _ := a4
      clear a4 hown
      have hne : v.ownBlock ≠ some w.heap.size := fun q => absurd (hvlt _ q) (Nat.lt_irrefl _)
      have hvb : ∀ g, v.ownBlock = some g → w0.heap.size ≤ g := fun g hg => Nat.le_trans hw0 (hown3.lt g hg).1
      go_loopw [0, 6] (fun a b wr => ∃ (i : Nat) (L' : List Int), b = .int .i64 i ∧ i ≤ l.length ∧ wr.ownsRow base 3 1 a L'.length (intCells L') ∧ Onto w3 wr v a ∧ L'.length + Ty.countL (l.drop i) ≤ 1000000000 ∧ Hid (R = Ty.varsL L' (l.drop i))) (fun _ b _ => l.length - (intOf b).toNat)
      case atStart => exact ⟨0, L, rfl, by omega, hown3, Onto.refl _ _, hcnt, HR⟩
      case round =>
        clear HR hcnt
        rename_i wr
        obtain ⟨i, L', rfl, hi1, hownr, hon, hcnt, Hs⟩ := hrel
        have a4 : wr.cell? ⟨w.heap.size, 4, none⟩ = some (.slice p l.length cap) := hon.cell Ha4.out hne
        have hzr := Nat.lt_of_lt_of_le hz hon.grown.size
        have hbr : Below w0.heap.size w0 wr := hon.below hb03 (by omega) hvb
        by_cases hi : i < l.length
        · have hi' : (i : Int) < l.length := by omega
          obtain ⟨b, o, k1, n1, s1, e1, l1, p1, cap1, rfl, hli, g0, g1, g2, g3, g4, hbw', hty⟩ := Hel.out i hi
          rw [← hbr.cell (p := ⟨b, o + i * 5, none⟩) hbw'] at g0
          rw [← hbr.cell (p := ⟨b, o + i * 5 + 1, none⟩) hbw'] at g1
          rw [← hbr.cell (p := ⟨b, o + i * 5 + 2, none⟩) hbw'] at g2
          rw [← hbr.cell (p := ⟨b, o + i * 5 + 3, none⟩) hbw'] at g3
          rw [← hbr.cell (p := ⟨b, o + i * 5 + 4, none⟩) hbw'] at g4
          have hbr' := Nat.lt_of_lt_of_le hbw' hbr.size
          rw [Ty.countL_step l i hi] at hcnt
          have hcall := fun w hown hbw hbase => Hih.out i hi w0 w [.int .i64 k1, .int .i64 n1, .string s1, .int .i64 e1, .slice p1 l1.length cap1] L' u0 base hty hw0 hbase hbw hown (by omega)
          have Hcall : Hid _ := hcall
          have Hs' : Hid (R = Ty.varsL ((l[i]'hi).vars L') (l.drop (i + 1))) := by
            unfold Hid
            rw [Hs.out, Ty.varsL_step l i hi]
          have hvl := Ty.vars_len (l[i]'hi) L'
          generalize (l[i]'hi).vars L' = L2 at *
          clear hty hli Hs hcall Hih Hel Ha4
          go_wp2_with fail
          refine (Hcall.out _ hownr hbr (by omega)).mono ?_
          rintro e w4 ⟨v', rfl, hown4, hon4⟩
          have hon5 := hon.trans hon4
          clear hon4 Hcall g0 g1 g2 g3 g4 a4 hownr hon
          go_wp2
          exact ⟨⟨i + 1, L2, by go_num, by omega, hown4, hon5, by omega, Hs'⟩, by simp [intOf]; omega⟩
        · have hi' : ¬ (i : Int) < l.length := by omega
          have Hs' : Hid (R = L') := by
            unfold Hid
            rw [Hs.out, List.drop_of_length_le (by omega), Ty.varsL_end]
          clear Hs
          go_wp2
          go_ret
          refine ⟨_, rfl, ?_, hob.trans hon⟩
          rw [Hs'.out]
          exact hownr
end
end Go.Proofs.Ytbgpjaniohpfaaa
