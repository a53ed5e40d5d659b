/-
  A world in which all but some blocks are as they were; the document's reader of bytes: the first fault (fail), a number (number).
-/
import Derived.Test.YtlekoldicnfeeaaDoorC5
namespace Go.Proofs.YtlekoldicnfeeaaDoor
open Go.RowKit Go.Deep
/-- All blocks but some are as they were. -/
structure Kp (X : List Nat) (w w' : World) : Prop where
  os : w'.os = w.os
  tape : w'.tape = w.tape
  output : w'.output = w.output
  size : w.heap.size ≤ w'.heap.size
  block : ∀ k, k < w.heap.size → k ∉ X → w'.heap[k]? = w.heap[k]?
theorem Kp.refl (X : List Nat) (w : World) : Kp X w w := ⟨rfl, rfl, rfl, Nat.le_refl _, fun _ _ _ => rfl⟩
theorem Kp.trans {X : List Nat} {a b c : World} (h : Kp X a b) (k : Kp X b c) : Kp X a c :=
  ⟨k.os.trans h.os, k.tape.trans h.tape, k.output.trans h.output, Nat.le_trans h.size k.size, fun i hi hx => (k.block i (Nat.lt_of_lt_of_le hi h.size) hx).trans (h.block i hi hx)⟩
theorem Kp.mono {X Y : List Nat} {w w' : World} (h : Kp X w w') (hX : ∀ x ∈ X, x ∈ Y) : Kp Y w w' := ⟨h.os, h.tape, h.output, h.size, fun k hk hy => h.block k hk (fun hx => hy (hX k hx))⟩
/-- What was made on the way may be written as one likes. -/
theorem Kp.fresh {X Y : List Nat} {w w' : World} (h : Kp Y w w') (hX : ∀ y ∈ Y, y ∈ X ∨ w.heap.size ≤ y) : Kp X w w' := ⟨h.os, h.tape, h.output, h.size, fun k hk hy => h.block k hk (fun hx => by rcases hX k hx with h | h; exact hy h; omega)⟩
theorem Kp.then {X Y : List Nat} {a b c : World} (h : Kp X a b) (k : Kp Y b c) (hY : ∀ y ∈ Y, y ∈ X ∨ a.heap.size ≤ y) : Kp X a c :=
  ⟨k.os.trans h.os, k.tape.trans h.tape, k.output.trans h.output, Nat.le_trans h.size k.size, fun i hi hx => (k.block i (Nat.lt_of_lt_of_le hi h.size) (fun hy => by rcases hY i hy with h | h; exact hx h; omega)).trans (h.block i hi hx)⟩
theorem Kp.alloc (X : List Nat) (w : World) (o : Obj) : Kp X w (w.alloc o) := ⟨rfl, rfl, rfl, by simp, fun k hk _ => Below.heap_alloc _ _ _ hk⟩
theorem Kp.drew {X : List Nat} {a w : World} (h : Kp X a w) : Kp X a w.drew := ⟨h.os, h.tape, h.output, h.size, h.block⟩
theorem Kp.drewN {X : List Nat} {a w : World} (h : Kp X a w) (n : Nat) : Kp X a (w.drewN n) := ⟨h.os, h.tape, h.output, h.size, h.block⟩
theorem Kp.setCell {X : List Nat} (w : World) (p : Addr) (hp : p.block ∈ X) (u : Value) : Kp X w (w.setCell p u) :=
  ⟨rfl, rfl, rfl, by simp [World.setCell], fun k _ hx => Below.heap_setCell _ _ _ _ (fun e => hx (e ▸ hp))⟩
theorem Kp.of_below {X : List Nat} {w w' : World} (h : Below w.heap.size w w') : Kp X w w' := ⟨h.os, h.tape, h.output, h.size, fun k hk _ => h.block k hk⟩
theorem Kp.of_grown {X : List Nat} {w w' : World} {row : Option Nat} (h : w.grownBy w' row) (hr : ∀ k, row = some k → k ∈ X) : Kp X w w' := ⟨h.os, h.tape, h.output, h.size, fun k hk hx => h.block k hk (fun e => hx (hr k e.symm))⟩
theorem Kp.below {X : List Nat} {w w' : World} {B : Nat} (h : Kp X w w') (hB : B ≤ w.heap.size) (hX : ∀ x ∈ X, B ≤ x) : Below B w w' :=
  ⟨h.os, h.tape, h.output, h.size, fun k hk => h.block k (Nat.lt_of_lt_of_le hk hB) (fun hx => by have := hX k hx; omega)⟩
theorem Kp.cell {X : List Nat} {w w' : World} (h : Kp X w w') {p : Addr} {v : Value} (hc : w.cell? p = some v) (hp : p.block ∉ X) : w'.cell? p = some v :=
  (World.cell?_of_block (w := w) (h.block p.block (World.block_lt_of_cell? _ _ hc) hp)).trans hc
theorem Kp.frozen {X : List Nat} {w w' : World} (h : Kp X w w') {p : Addr} (hl : p.block < w.heap.size) (hp : p.block ∉ X) : w'.frozen? p = w.frozen? p := World.frozen?_of_block (w := w) (h.block p.block hl hp)
/-- The reader's own cells. -/
def RBox (w : World) (rp : Nat) (S : ByteArray) (pos k fa : Int) : Prop := w.heap[rp]? = some (.cells #[.string S, .int .i64 pos, .int .i64 k, .int .i64 fa] 68)
theorem RBox.lt {w : World} {rp : Nat} {S : ByteArray} {pos k fa : Int} (h : RBox w rp S pos k fa) : rp < w.heap.size := (Array.getElem?_eq_some_iff.1 h).1
theorem RBox.kp {X : List Nat} {w w' : World} {rp : Nat} {S : ByteArray} {pos k fa : Int} (h : RBox w rp S pos k fa) (hk : Kp X w w') (hx : rp ∉ X) : RBox w' rp S pos k fa := (hk.block rp h.lt hx).trans h
theorem RBox.below {w w' : World} {rp : Nat} {S : ByteArray} {pos k fa : Int} (h : RBox w rp S pos k fa) (hb : Below w.heap.size w w') : RBox w' rp S pos k fa := (hb.block rp h.lt).trans h
theorem RBox.cells {w : World} {rp : Nat} {S : ByteArray} {pos k fa : Int} (h : RBox w rp S pos k fa) : w.cell? ⟨rp, 0, none⟩ = some (.string S) ∧ w.cell? ⟨rp, 1, none⟩ = some (.int .i64 pos) ∧ w.cell? ⟨rp, 2, none⟩ = some (.int .i64 k) ∧ w.cell? ⟨rp, 3, none⟩ = some (.int .i64 fa) ∧ (∀ j, w.frozen? ⟨rp, j, none⟩ = false) := by
  unfold RBox at h
  refine ⟨?_, ?_, ?_, ?_, fun j => ?_⟩ <;> simp [World.cell?, World.frozen?, h]
theorem RBox.fault {w : World} {rp : Nat} {S : ByteArray} {pos k fa : Int} (h : RBox w rp S pos k fa) (k' fa' : Int) : RBox ((w.setCell ⟨rp, 2, none⟩ (.int .i64 k')).setCell ⟨rp, 3, none⟩ (.int .i64 fa')) rp S pos k' fa' := by
  unfold RBox at *
  simp [World.setCell, Array.getElem?_modify, h]
theorem RBox.move {w : World} {rp : Nat} {S : ByteArray} {pos k fa : Int} (h : RBox w rp S pos k fa) (pos' : Int) : RBox (w.setCell ⟨rp, 1, none⟩ (.int .i64 pos')) rp S pos' k fa := by
  unfold RBox at *
  simp [World.setCell, Array.getElem?_modify, h]
section
set_option maxHeartbeats 4000000
set_option maxRecDepth 100000
theorem fail_any (w : World) (rp : Nat) (S : ByteArray) (pos k0 fa k pl : Int) (h : RBox w rp S pos k0 fa) :
    Calls Tryd.prog 24 #[.pointer (some ⟨rp, 0, none⟩), .int .i64 k, .int .i64 pl] w fun e w' => e = .returned (.tuple #[]) ∧ RBox w' rp S pos (if k0 = 0 then k else k0) (if k0 = 0 then pl else fa) ∧ Kp [rp] w w' := by
  obtain ⟨c0, c1, c2, c3, fr⟩ := h.cells
  have hlt := h.lt
  have f2 := fr 2
  have f3 := fr 3
  have H : Hid (RBox w rp S pos k0 fa) := h
  clear h fr
  by_cases hk : k0 = 0
  · rw [if_pos hk, if_pos hk]
    have b : (k0 == 0) = true := by simpa using hk
    clear hk
    go_enter Tryd.func24, Tryd.ntmps24
    go_wp2
    go_end0
    exact ⟨rfl, H.out.fault k pl, (Kp.setCell w ⟨rp, 2, none⟩ (by simp) _).trans (Kp.setCell _ ⟨rp, 3, none⟩ (by simp) _)⟩
  · rw [if_neg hk, if_neg hk]
    have b : (k0 == 0) = false := by simpa using hk
    clear hk
    go_enter Tryd.func24, Tryd.ntmps24
    go_wp2
    go_end0
    exact ⟨rfl, H.out, Kp.refl _ _⟩
/-- The reader: where it is, its fault. -/
structure Rs where
  pos : Nat
  kind : Int
  fat : Int
def byteAt (S : ByteArray) (i : Nat) : UInt8 := (S.data.toList[i]?).getD 0
def numAt (S : ByteArray) (pos : Nat) : Nat → Int
  | 0 => 0
  | i + 1 => 256 * numAt S pos i + (byteAt S (pos + i)).toNat
theorem numAt_pos (S : ByteArray) (pos : Nat) : ∀ i, 0 ≤ numAt S pos i ∧ numAt S pos i < 256 ^ i
  | 0 => by simp [numAt]
  | i + 1 => by
    have h := numAt_pos S pos i
    have h2 := (byteAt S (pos + i)).toNat_lt
    rw [numAt, Int.pow_succ]
    omega
def Rs.num (S : ByteArray) (n : Nat) (r : Rs) : Int × Rs := if r.kind = 0 then (if (S.size : Int) - r.pos < n then (0, ⟨r.pos, 16, S.size⟩) else (numAt S r.pos n, ⟨r.pos + n, 0, r.fat⟩)) else (0, r)
def RAt (w : World) (rp : Nat) (S : ByteArray) (r : Rs) : Prop := RBox w rp S r.pos r.kind r.fat
theorem byteAt_eq (S : ByteArray) (i j : Nat) (hj : j < S.size) (h : i = j) : byteAt S i = S[j]'hj := by
  subst h
  unfold byteAt
  rw [List.getElem?_eq_getElem (by rw [Array.length_toList]; exact hj)]
  rfl
theorem num_step (S : ByteArray) (V : Int) (pos i : Nat) (hix : ((pos : Int) + (i : Int)).toNat < S.size) (h1 : 0 ≤ V) (h2 : V < 16777216) : Value.int IntKind.i64 (wrap64 (256 * V + wrap64 ((S[pos + i]'(by omega)).toNat : Nat))) = .int .i64 (256 * V + ((S[((pos : Int) + (i : Int)).toNat]'hix).toNat : Nat)) := by
  have hb := UInt8.toNat_lt (S[pos + i]'(by omega))
  have e : S[((pos : Int) + (i : Int)).toNat]'hix = S[pos + i]'(by omega) := by
    congr 1
  rw [e]
  have w1 : wrap64 ((S[pos + i]'(by omega)).toNat : Nat) = ((S[pos + i]'(by omega)).toNat : Nat) := IntWalk.wrap64_in _ (by omega)
  rw [w1, IntWalk.wrap64_in (256 * V + ((S[pos + i]'(by omega)).toNat : Nat)) (by omega)]
theorem below_drewN {B : Nat} {w w' : World} (h : Below B w w') (n : Nat) : Below B w (w'.drewN n) := ⟨h.os, h.tape, h.output, h.size, h.block⟩
theorem number_any (w : World) (rp : Nat) (S : ByteArray) (r : Rs) (n : Nat) (hn : n ≤ 4) (h : RAt w rp S r) (hS : S.size ≤ 4000000) (hp : r.pos ≤ 4000000) :
    Calls Tryd.prog 25 #[.pointer (some ⟨rp, 0, none⟩), .int .i64 n] w fun e w' => e = .returned (.int .i64 (r.num S n).1) ∧ RAt w' rp S (r.num S n).2 ∧ Kp [rp] w w' := by
  obtain ⟨pos, k0, fa⟩ := r
  have H : Hid (RBox w rp S pos k0 fa) := h
  have Hf : Hid (∀ wx, RBox wx rp S pos k0 fa → _) := fun wx hx => fail_any wx rp S pos k0 fa 16 S.size hx
  have hlt := H.out.lt
  clear h
  simp only at hp
  by_cases hk : k0 = 0
  · have hk' : (k0 != 0) = false := by simpa using hk
    by_cases hgt : (S.size : Int) - pos < n
    · have hR : Rs.num S n ⟨pos, k0, fa⟩ = (0, ⟨pos, 16, S.size⟩) := by unfold Rs.num; simp [hk, hgt]
      rw [hR]
      have hd : decide ((S.size : Int) - pos < n) = true := by simpa using hgt
      obtain ⟨c0, c1, c2, c3, fr⟩ := H.out.cells
      have Hk : Hid (k0 = 0) := hk
      clear hk
      go_enter Tryd.func25, Tryd.ntmps25
      go_wp2_with fail
      go_quiet (fail)
      obtain ⟨d0, d1, d2, d3, _⟩ := (H.out.below (below_drewN (Below.refl _ _) nq)).cells
      go_wp2_with fail
      refine Calls.mono (Hf.out _ (H.out.below (below_drewN (Below.refl _ _) nq))) ?_
      rintro e1 w1 ⟨rfl, h1, h2⟩
      rw [if_pos Hk.out, if_pos Hk.out] at h1
      have H1 : Hid (RBox w1 rp S pos 16 S.size) := h1
      have H2 : Hid (Kp [rp] w w1) := (Kp.of_below (below_drewN (Below.refl _ _) nq)).trans h2
      clear h1 h2 d0 d1 d2 d3
      go_wp2
      go_ret
      exact ⟨rfl, H1.out, H2.out⟩
    · have hR : Rs.num S n ⟨pos, k0, fa⟩ = (numAt S pos n, ⟨pos + n, 0, fa⟩) := by unfold Rs.num; simp [hk, hgt]
      rw [hR]
      have hd : decide ((S.size : Int) - pos < n) = false := by simpa using hgt
      obtain ⟨c0, c1, c2, c3, fr⟩ := H.out.cells
      have Hk : Hid (k0 = 0) := hk
      clear hk
      go_enter Tryd.func25, Tryd.ntmps25
      go_wp2_with fail
      go_quiet (fail)
      go_wp2_with fail
      have H0 : Hid (RBox (w.drewN nq) rp S pos k0 fa ∧ Kp [] w (w.drewN nq)) := ⟨H.out.below (below_drewN (Below.refl _ _) nq), Kp.of_below (below_drewN (Below.refl _ _) nq)⟩
      generalize w.drewN nq = w1 at *
      clear c0 c1 c2 c3 fr hk' hd
      go_loopg [5, 6] n (fun g vv iv wr => ∃ (i : Nat), vv = .int .i64 (numAt S pos i) ∧ iv = .int .i64 i ∧ i ≤ n ∧ g = n - i ∧ Hid (RBox wr rp S pos k0 fa ∧ Kp [] w wr))
      case atStart => exact ⟨0, rfl, rfl, by omega, by omega, H0.out⟩
      case round =>
        clear H0
        obtain ⟨i, rfl, rfl, hi1, rfl, HR⟩ := hrel
        have hlr := HR.out.1.lt
        obtain ⟨c0, c1, c2, c3, fr⟩ := HR.out.1.cells
        by_cases hi : i < n
        · have hi' : (i : Int) < n := by omega
          have hnp := numAt_pos S pos i
          have hV : 0 ≤ numAt S pos i ∧ numAt S pos i < 16777216 := by
            have h4 : i = 0 ∨ i = 1 ∨ i = 2 ∨ i = 3 := by omega
            rcases h4 with rfl | rfl | rfl | rfl
            all_goals
              simp only [Int.reducePow] at hnp
              omega
          have hix : ((pos : Int) + (i : Int)).toNat < S.size := by omega
          have hbe : byteAt S (pos + i) = S[((pos : Int) + (i : Int)).toNat]'hix := byteAt_eq S _ _ hix (by omega)
          have hby : (S[((pos : Int) + (i : Int)).toNat]'hix).toNat < 256 := UInt8.toNat_lt _
          have Hnx : Hid (256 * numAt S pos i + ((S[((pos : Int) + (i : Int)).toNat]'hix).toNat : Nat) = numAt S pos (i + 1)) := by unfold Hid; rw [← hbe]; rfl
          obtain ⟨hV1, hV2⟩ := hV
          clear hnp hbe
          generalize numAt S pos i = V at *
          have hw1 : IntKind.i64.wrap (256 * V) = 256 * V := IntWalk.i64_in _ (by omega)
          have hw2 : IntKind.i64.wrap ((pos : Int) + (i : Int)) = (pos : Int) + (i : Int) := IntWalk.i64_in _ (by omega)
          have hw3 : IntKind.i64.wrap ((S[((pos : Int) + (i : Int)).toNat]'hix).toNat : Nat) = ((S[((pos : Int) + (i : Int)).toNat]'hix).toNat : Nat) := IntWalk.i64_in _ (by omega)
          have hw4 : IntKind.i64.wrap (256 * V + ((S[((pos : Int) + (i : Int)).toNat]'hix).toNat : Nat)) = 256 * V + ((S[((pos : Int) + (i : Int)).toNat]'hix).toNat : Nat) := IntWalk.i64_in _ (by omega)
          have hin : 0 ≤ (pos : Int) + (i : Int) ∧ (pos : Int) + (i : Int) < S.size := by omega
          obtain ⟨d0, d1, d2, d3, _⟩ := (HR.out.1.below (Below.refl _ _).drew).cells
          have Q : Hid (RBox wr.drew rp S pos k0 fa ∧ Kp [] w wr.drew) := ⟨HR.out.1.below (Below.refl _ _).drew, HR.out.2.trans (Kp.refl _ _).drew⟩
          go_wp2_with fail
          go_region
          all_goals
            clear HR c0 c1 c2 c3 fr hlr d0 d1 d2 d3
            go_wp2
            go_roundg (n - (i + 1))
            case measure => omega
            case rel => exact ⟨i + 1, by rw [← Hnx.out]; exact num_step S V pos i hix hV1 hV2, by first | rfl | (congr 1; omega) | go_num, by omega, rfl, Q⟩
        · have hi' : ¬ (i : Int) < n := by omega
          obtain rfl : i = n := by omega
          have hfr := fr 1
          have Q : Hid (RBox (wr.setCell ⟨rp, 1, none⟩ (.int .i64 ((pos : Int) + (i : Int)))) rp S ((pos : Int) + (i : Int)) k0 fa ∧ Kp [rp] w (wr.setCell ⟨rp, 1, none⟩ (.int .i64 ((pos : Int) + (i : Int))))) := ⟨HR.out.1.move _, (HR.out.2.mono (by simp)).trans (Kp.setCell wr ⟨rp, 1, none⟩ (by simp) _)⟩
          clear HR fr
          go_wp2
          go_ret
          refine ⟨rfl, ?_, Q.out.2⟩
          have := Q.out.1
          rw [Hk.out] at this
          exact this
  · have hk' : (k0 != 0) = true := by simpa using hk
    have hR : Rs.num S n ⟨pos, k0, fa⟩ = (0, ⟨pos, k0, fa⟩) := by unfold Rs.num; simp [hk]
    rw [hR]
    obtain ⟨c0, c1, c2, c3, fr⟩ := H.out.cells
    have Hk : Hid (¬ k0 = 0) := hk
    clear hk
    go_enter Tryd.func25, Tryd.ntmps25
    go_wp2_with fail
    go_quiet (fail)
    obtain ⟨d0, d1, d2, d3, _⟩ := (H.out.below (below_drewN (Below.refl _ _) nq)).cells
    go_wp2_with fail
    refine Calls.mono (Hf.out _ (H.out.below (below_drewN (Below.refl _ _) nq))) ?_
    rintro e1 w1 ⟨rfl, h1, h2⟩
    rw [if_neg Hk.out, if_neg Hk.out] at h1
    have H1 : Hid (RBox w1 rp S pos k0 fa) := h1
    have H2 : Hid (Kp [rp] w w1) := (Kp.of_below (below_drewN (Below.refl _ _) nq)).trans h2
    clear h1 h2 d0 d1 d2 d3
    go_wp2
    go_ret
    exact ⟨rfl, H1.out, H2.out⟩
end
end Go.Proofs.YtlekoldicnfeeaaDoor
