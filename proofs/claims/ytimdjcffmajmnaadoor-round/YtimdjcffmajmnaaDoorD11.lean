/-
  The program's reader of bytes: how many things there are, and these: functions (list of fun).
-/
import Derived.Test.YtimdjcffmajmnaaDoorD10
namespace Go.Proofs.YtimdjcffmajmnaaDoor
open Go.RowKit Go.Deep
/-- The rows of the functions that were read lie apart. -/
def FnsAt (B : Nat) (w : World) (v : Value) (l : List FnAt) : Prop := ∀ x ∈ l, InsIn w x.q x.f.ins ∧ ∀ b, x.q = some b → B ≤ b.block ∧ b.block < w.heap.size ∧ v.ownBlock ≠ some b.block
theorem funsR_stop (S : ByteArray) : ∀ (n : Nat) (s : List Fn × Rs), ¬ s.2.kind = 0 → funsR S n s = s
  | 0, _, _ => rfl
  | n + 1, s, h => by rw [funsR, if_neg h]
theorem make23 (n : Nat) (hn : n ≤ 4000000) (w : World) : (Instr.makeSlice 23 (.int .i64 0) (.int .i64 (n : Int))).run Tryd.prog w = .ok (.slice (some ⟨w.heap.size, 0, none⟩) 0 n) (w.alloc (.cells (madeCells #[.int .i64 0, .int .i64 0, .slice none 0 0] (n * 3)) 50)) := by
  obtain ⟨i, h1, h2, h3, h4⟩ := info_parts infos45
  have hr := run_make (P := Tryd.prog) w 23 50 i _ Tryd.underlying23 h1 h2 .i64 .i64 0 (n : Int) (by omega) (by omega) (by rw [h4]; omega) (by omega)
  rw [h3] at hr
  have e : ((n : Int)).toNat = n := by omega
  rw [e] at hr
  exact hr
theorem made23 (w : World) (n : Nat) (hn : n ≤ 4000000) (base : Nat) (hb : base ≤ w.heap.size) : (w.alloc (.cells (madeCells #[.int .i64 0, .int .i64 0, .slice none 0 0] (n * 3)) 50)).ownsRow base 50 3 (.slice (some ⟨w.heap.size, 0, none⟩) 0 n) 0 [] :=
  World.ownsRow_made w _ n hb (by unfold maxLen; omega) (by simp [madeCells])
def funsL (S : ByteArray) (pos : Nat) : List Fn × Rs := funsR S (num0 S 2 pos).1.toNat ([], (num0 S 2 pos).2)
inductive FunsPost (w : World) (rp : Nat) (S : ByteArray) (l : List Fn) (r : Rs) (e : Ending) (w' : World) : Prop
  | mk (q : Option Addr) (m cap : Nat) (he : e = .returned (.tuple #[.slice q m cap, evR r.kind r.fat])) (hr : r.kind = 0 → m = l.length ∧ (∀ (X : List Nat) (W : World), Kp X w' W → (∀ y ∈ X, y < w.heap.size) → FunsIn W q l) ∧ PBox w' rp S r.pos ∧ r.fat = 0 ∧ r.pos ≤ S.size ∧ l.length ≤ 65535) (hk : Kp [rp] w w') : FunsPost w rp S l r e w'
section
set_option maxHeartbeats 8000000
set_option maxRecDepth 100000
theorem funsL_read (w : World) (rp : Nat) (S : ByteArray) (pos : Nat) (h : PBox w rp S pos) (hSh : ShIn w) (hrp : 1 ≠ rp) (hS : S.size ≤ 4000000) (hp : pos ≤ 4000000) : Calls Tryd.prog 38 #[.pointer (some ⟨rp, 0, none⟩), .func (.func 39) #[] #[]] w fun e w' => FunsPost w rp S (funsL S pos).1 (funsL S pos).2 e w' := by
  have Hc : Hid _ := two_read w rp S pos h hS hp
  have hrg := num0_range S pos
  have Hgood : Hid _ := num0_good (S := S) (n := 2) (pos := pos)
  have Hbad : Hid _ := num0_bad (S := S) (n := 2) (pos := pos)
  have HSh : Hid (∀ wx, Kp [rp] w wx → ShIn wx) := fun wx hx => hSh.of_block (hx.block 1 hSh.lt (by simpa using hrp))
  have hrl := h.lt
  obtain ⟨R, hR⟩ : ∃ R, R = funsL S pos := ⟨_, rfl⟩
  rw [← hR]
  unfold funsL at hR
  have HR : Hid _ := hR
  clear hR h hSh
  generalize num0 S 2 pos = A at *
  obtain ⟨n, r1⟩ := A
  simp only at Hc hrg Hgood Hbad HR
  obtain ⟨k, rfl⟩ : ∃ k : Nat, n = (k : Int) := ⟨n.toNat, by omega⟩
  rw [Int.toNat_natCast] at HR
  have hk16 : k ≤ 65535 := by omega
  go_enter Tryd.func38, Tryd.ntmps38
  go_wp2_with fail
  refine Calls.mono Hc.out ?_
  rintro e1 w1 ⟨rfl, p1, k1⟩
  have Hp1 : Hid (PBox w1 rp S r1.pos ∧ Kp [rp] w w1) := ⟨p1, k1⟩
  clear p1 k1 Hc
  by_cases hz : ¬ r1.kind = 0
  · have hk0 : (k : Int) = 0 := Hbad.out hz
    obtain rfl : k = 0 := by omega
    have hR2 : R = ([], r1) := HR.out
    subst hR2
    have Hev : Hid (evR r1.kind r1.fat = .iface 63 (.agg #[.int .i64 r1.kind, .int .i64 r1.fat])) := evR_err hz
    have Hz : Hid (¬ r1.kind = 0) := hz
    rw [Hev.out]
    clear hz HR hk0 Hbad Hgood
    go_wp2
    exact bodyPost_ret (v := .tuple #[.slice none 0 0, .iface 63 (.agg #[.int .i64 r1.kind, .int .i64 r1.fat])]) (by simp [results, Tryd.results38, go_sem]) rfl ⟨none, 0, 0, by rw [Hev.out], fun h => absurd h Hz.out, Hp1.out.2⟩
  replace hz : r1.kind = 0 := Decidable.not_not.1 hz
  obtain ⟨e1, hle⟩ := Hgood.out hz
  subst e1
  clear hz Hbad Hgood
  rw [evR_nil rfl]
  obtain ⟨m, hm⟩ : ∃ m : Nat, S.size = pos + 2 + m := ⟨S.size - (pos + 2), by omega⟩
  have Hl : Hid _ := left_any w1 rp S (pos + 2) Hp1.out.1 (by omega) (by omega)
  rw [show (S.size : Int) - ((pos + 2 : Nat) : Int) = (m : Int) by omega] at Hl
  have hm4 : m ≤ 4000000 := by omega
  clear hm
  go_upto_region 4 with fail
  go_cut [8] from 19 to 23 (fun v wx => Hid (wx.ownsRow w.heap.size 50 3 v 0 (fnRow []) ∧ PBox wx rp S ((pos + 2 : Nat) : Int) ∧ Kp [rp] w wx))
  case first =>
    go_wp2_with fail
    refine Calls.mono Hl.out ?_
    rintro e2 w2 ⟨rfl, k2⟩
    have Hp2 : Hid (PBox w2 rp S ((pos + 2 : Nat) : Int) ∧ Kp [rp] w w2) := ⟨PBox.kp Hp1.out.1 k2 (by simp), Kp.trans Hp1.out.2 (Kp.mono k2 (by simp))⟩
    clear Hl k2 Hp1
    have Hmk : Hid (∀ n : Nat, n ≤ 4000000 → (w2.alloc (.cells (madeCells #[.int .i64 0, .int .i64 0, .slice none 0 0] (n * 3)) 50)).ownsRow w.heap.size 50 3 (.slice (some ⟨w2.heap.size, 0, none⟩) 0 n) 0 (fnRow []) ∧ PBox (w2.alloc (.cells (madeCells #[.int .i64 0, .int .i64 0, .slice none 0 0] (n * 3)) 50)) rp S ((pos + 2 : Nat) : Int) ∧ Kp [rp] w (w2.alloc (.cells (madeCells #[.int .i64 0, .int .i64 0, .slice none 0 0] (n * 3)) 50))) := fun n hn => ⟨made23 w2 n hn w.heap.size (Kp.size Hp2.out.2), PBox.kp Hp2.out.1 (Kp.alloc [] _ _) (by simp), Kp.trans Hp2.out.2 (Kp.alloc _ _ _)⟩
    by_cases hkm : (k : Int) ≤ m
    · have hmk := make23 k (by omega) w2
      go_wp2
      go_meet
      exact Hmk.out k (by omega)
    · have hmk := make23 m (by omega) w2
      go_wp2
      go_meet
      exact Hmk.out m (by omega)
  case rest =>
    have HQ0 := hcut
    clear hcut Hp1 Hl
    rename World => w3
    go_wp2_with fail
    go_loopg [8, 25] k (fun g vv iv wr => ∃ i : Nat, iv = .int .i64 i ∧ i ≤ k ∧ g = k - i ∧ Hid (∃ (l : List FnAt) (P : Nat), funsR S (k - i) (l.map FnAt.f, ⟨P, 0, 0⟩) = R ∧ P ≤ S.size ∧ l.length = i ∧ wr.ownsRow w.heap.size 50 3 vv l.length (fnRow l) ∧ PBox wr rp S P ∧ Kp [rp] w wr ∧ FnsAt w.heap.size wr vv l))
    case atStart => exact ⟨0, rfl, by omega, by omega, [], pos + 2, HR.out.symm, hle, rfl, HQ0.out.1, HQ0.out.2.1, HQ0.out.2.2, fun x hx => by cases hx⟩
    case round =>
      clear HQ0 HR
      obtain ⟨i, rfl, hi1, rfl, HQ⟩ := hrel
      obtain ⟨l, P, q1, q2, q3, q4, q5, q6, q7⟩ := HQ.out
      clear HQ
      by_cases hi : i < k
      · have hi' : (i : Int) < k := by omega
        have Hc : Hid _ := fun_read wr rp S P q5 (HSh.out wr q6) hrp hS (by omega)
        rw [show k - i = (k - (i + 1)) + 1 by omega, funsR, if_pos rfl] at q1
        have e0 : funR S ⟨P, 0, 0⟩ = fun0 S P := rfl
        simp only [e0] at q1
        clear e0
        generalize fun0 S P = A at *
        obtain ⟨f, r2⟩ := A
        simp only at Hc q1
        have Hq : Hid _ := And.intro q1 (And.intro q3 (And.intro q4 (And.intro q6 q7)))
        clear q1 q2 q3 q4 q5 q6 q7
        go_wp2_with fail
        refine Calls.mono Hc.out ?_
        rintro e4 w4 ⟨fa, fb, fq, fm, fc, rfl, hq4, k4⟩
        have H5 : Hid (Kp [] w4 (w4.alloc (.cells #[.int .i64 fa, .int .i64 fb, .slice fq fm fc] 50)) ∧ Kp [rp] wr w4 ∧ UBox (w4.alloc (.cells #[.int .i64 fa, .int .i64 fb, .slice fq fm fc] 50)) w4.heap.size fa fb fq fm fc) := ⟨Kp.alloc _ _ _, k4, (MapKept.heap_alloc w4 _).1⟩
        have Hq4 : Hid _ := hq4
        clear hq4 k4 Hc
        go_upto_region 8 with fail
        generalize w4.alloc (.cells #[.int .i64 fa, .int .i64 fb, .slice fq fm fc] 50) = w5 at *
        have Hx : Hid (UBox w5 w4.heap.size fa fb fq fm fc) := H5.out.2.2
        have HK : Hid (Kp [rp] wr w5) := Kp.trans H5.out.2.1 (Kp.mono H5.out.1 (by simp))
        generalize w4.heap.size = xb at Hx ⊢
        obtain ⟨x0, x1, x2, _⟩ := UBox.cells Hx.out
        have x3 := UBox.lt Hx.out
        by_cases hz : ¬ r2.kind = 0
        · have hR2 : (l.map FnAt.f ++ [f], r2) = R := by rw [← Hq.out.1, funsR_stop S _ _ hz]
          subst hR2
          have Hev : Hid (evR r2.kind r2.fat = .iface 63 (.agg #[.int .i64 r2.kind, .int .i64 r2.fat])) := evR_err hz
          have Hz : Hid (¬ r2.kind = 0) := hz
          have HK2 : Hid (Kp [rp] w w5) := Kp.trans Hq.out.2.2.2.1 HK.out
          rw [Hev.out]
          clear hz Hq Hq4 H5
          go_wp2
          exact bodyPost_ret (v := .tuple #[.slice none 0 0, .iface 63 (.agg #[.int .i64 r2.kind, .int .i64 r2.fat])]) (by simp [results, Tryd.results38, go_sem]) rfl ⟨none, 0, 0, by rw [Hev.out], fun h => absurd h Hz.out, HK2.out⟩
        · replace hz : r2.kind = 0 := Decidable.not_not.1 hz
          obtain ⟨rfl, rfl, rfl, hIn, hfr, hPB, hfat, hps, hfl⟩ := Hq4.out hz
          obtain ⟨P2, k2, f2⟩ := r2
          simp only at hz hfat hps hPB
          subst hz
          subst hfat
          rw [evR_nil rfl]
          obtain ⟨q1, q3, q4, q6, q7⟩ := Hq.out
          have hown : w5.ownsRow w.heap.size 50 3 u8 l.length (fnRow l) := ownsRow.kp q4 HK.out (fun g hg => by have := (q4.lt g hg).1; simp only [List.mem_singleton]; omega)
          have hnew : FnsAt w.heap.size w5 u8 (l ++ [⟨f, fq, fc⟩]) := fun x hx => by
            rcases List.mem_append.1 hx with hx | hx
            · obtain ⟨a1, a2⟩ := q7 x hx
              refine ⟨a1.kp HK.out (fun b hb => by have := (a2 b hb).1; simp only [List.mem_singleton]; omega), fun b hb => ?_⟩
              obtain ⟨b1, b2, b3⟩ := a2 b hb
              exact ⟨b1, Nat.lt_of_lt_of_le b2 HK.out.size, b3⟩
            · obtain rfl := List.mem_singleton.1 hx
              refine ⟨hIn.kp H5.out.1 (by simp), fun b hb => ?_⟩
              obtain ⟨b1, b2⟩ := hfr b hb
              refine ⟨Nat.le_trans q6.size b1, Nat.lt_of_lt_of_le b2 H5.out.1.size, fun e => ?_⟩
              have := (q4.lt _ e).2
              omega
          have hPB5 : PBox w5 rp S P2 := hPB.kp H5.out.1 (by simp)
          have hK5 : Kp [rp] w w5 := q6.trans HK.out
          have hsz5 : w.heap.size ≤ w5.heap.size := hK5.size
          have hll : l.length ≤ 65535 := by omega
          have Hq5 : Hid _ := And.intro q1 (And.intro q3 (And.intro hnew (And.intro hPB5 hK5)))
          clear q1 q3 q4 q6 q7 hnew hPB5 hK5 hIn hfr hPB Hq Hq4 H5 HK Hx
          obtain ⟨i0, hi0, hzz0, hzz1, hzz2⟩ := info_parts infos45
          go_wp2_with (at_builtin; refine wpList_append_lies _ rfl _ _ 23 rfl w.heap.size 50 i0 (.agg #[.int .i64 0, .int .i64 0, .slice none 0 0]) 3 40 slice23 hi0 hzz0 hzz1 hzz2 rfl (by decide) _ _ _ rfl (hown.alloc _) ⟨w5.heap.size, 0, none⟩ 1 1 [.int .i64 f.free, .int .i64 f.slots, .slice fq f.ins.length fc] rfl rfl (cells3_new w5 _ _ _ _) (one3s f.free f.slots fq f.ins.length fc) (by decide) (by unfold maxLen; omega) (by omega) (by simp; omega) (w5.heap.size + 1) (by simp) ?_)
          intro g9 cap9 w9 ho9 hg9 hat9 hlt9
          have Q : Hid (∃ (l2 : List FnAt) (P : Nat), funsR S (k - (i + 1)) (l2.map FnAt.f, ⟨P, 0, 0⟩) = R ∧ P ≤ S.size ∧ l2.length = i + 1 ∧ w9.ownsRow w.heap.size 50 3 (.slice (some ⟨g9, 0, none⟩) (l.length + 1) cap9) l2.length (fnRow l2) ∧ PBox w9 rp S P ∧ Kp [rp] w w9 ∧ FnsAt w.heap.size w9 (.slice (some ⟨g9, 0, none⟩) (l.length + 1) cap9) l2) := by
            have hk9 := kp_grown hg9
            have hb : ∀ g, u8.ownBlock = some g → w.heap.size ≤ g := fun g hg => (hown.lt g hg).1
            obtain ⟨q1, q3, q7, q5, q6⟩ := Hq5.out
            refine ⟨l ++ [⟨f, fq, fc⟩], P2, by rw [← q1, List.map_append]; rfl, hps, by rw [List.length_append, q3]; rfl, ?_, ?_, ?_, fun x hx => ?_⟩
            · rw [List.length_append, fnRow_snoc]
              exact ho9
            · refine PBox.kp (q5.kp (Kp.alloc [] _ _) (by simp)) hk9 (fun hx => ?_)
              have := hb rp (by simpa using hx)
              omega
            · exact Kp.then (q6.trans (Kp.alloc _ _ _)) hk9 (fun y hy => Or.inr (hb y (by simpa using hy)))
            · obtain ⟨a1, a2⟩ := q7 x hx
              refine ⟨InsIn.kp (a1.kp (Kp.alloc [] _ _) (by simp)) hk9 (fun b hb2 hy => (a2 b hb2).2.2 (by simpa using hy)), fun b hb2 => ?_⟩
              obtain ⟨b1, b2, b3⟩ := a2 b hb2
              refine ⟨b1, Nat.lt_of_lt_of_le b2 (Nat.le_trans (Kp.size (Kp.alloc [] w5 _)) hk9.size), fun e => ?_⟩
              have e2 : g9 = b.block := by simpa [Value.ownBlock] using e
              rcases hat9 with h9 | h9
              · exact b3 (by rw [h9, e2])
              · omega
          clear ho9 hg9 hat9 hlt9 hown Hq5 x0 x1 x2 x3
          go_wp2
          go_roundg (k - (i + 1))
          case measure => omega
          case rel => exact ⟨i + 1, by first | rfl | (congr 1; omega) | go_num, by omega, rfl, Q⟩
      · have hi' : ¬ (i : Int) < k := by omega
        rw [show k - i = 0 by omega, funsR] at q1
        subst q1
        have hfun : ∀ (X : List Nat) (W : World), Kp X wr W → (∀ y ∈ X, y < w.heap.size) → ∃ q cap, u8 = .slice q l.length cap ∧ FunsIn W q (l.map FnAt.f) := fun X W hk hX =>
          funsIn_row (ownsRow.kp q4 hk (fun g hg hx => by have := (q4.lt g hg).1; have := hX g hx; omega)) (by omega) (fun x hx => (q7 x hx).1.kp hk (fun b hb hy => by have := ((q7 x hx).2 b hb).1; have := hX _ hy; omega))
        obtain ⟨q, cap, e1, hIn⟩ := hfun [] wr (Kp.refl _ _) (by simp)
        subst e1
        have Hq : Hid _ := And.intro hfun (And.intro q5 (And.intro q2 (And.intro q3 q6)))
        clear q2 q3 q4 q5 q6 q7 hIn hfun
        go_wp2
        refine bodyPost_ret (v := .tuple #[.slice q l.length cap, .nilIface]) (by simp [results, Tryd.results38, go_sem]) rfl ⟨q, l.length, cap, rfl, fun _ => ⟨by simp, fun X W hk hX => ?_, Hq.out.2.1, rfl, Hq.out.2.2.1, by have := Hq.out.2.2.2.1; simp; omega⟩, Hq.out.2.2.2.2⟩
        obtain ⟨q', cap', e', h'⟩ := Hq.out.1 X W hk hX
        cases e'
        exact h'
end
end Go.Proofs.YtimdjcffmajmnaaDoor
