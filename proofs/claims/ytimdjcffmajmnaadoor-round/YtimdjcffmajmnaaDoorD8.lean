/-
  The program's reader of bytes: how many things there are, and these: instructions (list of ins).
-/
import Derived.Test.YtimdjcffmajmnaaDoorD7
import Derived.Test.YtimdjcffmajmnaaDoorC17
namespace Go.Proofs.YtimdjcffmajmnaaDoor
open Go.RowKit Go.Deep
theorem num0_good {S : ByteArray} {n pos : Nat} (h : (num0 S n pos).2.kind = 0) : (num0 S n pos).2 = ⟨pos + n, 0, 0⟩ ∧ pos + n ≤ S.size := by
  by_cases hgt : (S.size : Int) - pos < n
  · rw [num0_short hgt] at h
    cases h
  · rw [num0_ok hgt]
    exact ⟨rfl, by omega⟩
theorem num0_range (S : ByteArray) (pos : Nat) : 0 ≤ (num0 S 2 pos).1 ∧ (num0 S 2 pos).1 ≤ 65535 := by
  by_cases hgt : (S.size : Int) - pos < (2 : Nat)
  · rw [num0_short hgt]
    simp
  · rw [num0_ok hgt]
    have := numAt_pos S pos 2
    simp only
    omega
theorem num0_bad {S : ByteArray} {n pos : Nat} (h : ¬ (num0 S n pos).2.kind = 0) : (num0 S n pos).1 = 0 := by
  by_cases hgt : (S.size : Int) - pos < n
  · rw [num0_short hgt]
  · rw [num0_ok hgt] at h
    exact absurd rfl h
theorem arg_good {S : ByteArray} {pos : Nat} (h : (argR S 105 ⟨pos, 0, 0⟩).2.kind = 0) : (argR S 105 ⟨pos, 0, 0⟩).2 = ⟨pos + 4, 0, 0⟩ ∧ pos + 4 ≤ S.size := by
  unfold argR at h ⊢
  simp only [if_true] at h ⊢
  have e : Rs.num S 4 ⟨pos, 0, 0⟩ = num0 S 4 pos := rfl
  rw [e] at h ⊢
  by_cases h1 : 1000000000 < signed (num0 S 4 pos).1 ∨ signed (num0 S 4 pos).1 < -1000000000
  · rw [if_pos h1] at h ⊢
    unfold Rs.fail at h ⊢
    by_cases hz : (num0 S 4 pos).2.kind = 0
    · rw [if_pos hz] at h
      cases h
    · rw [if_neg hz] at h
      exact absurd h hz
  · rw [if_neg h1] at h ⊢
    exact num0_good h
theorem ins0_good {S : ByteArray} {pos : Nat} (h : (ins0 S pos).2.kind = 0) : ∃ P, (ins0 S pos).2 = ⟨P, 0, 0⟩ ∧ P ≤ S.size := by
  by_cases hgt : (S.size : Int) - pos < (1 : Nat)
  · rw [ins0_short hgt] at h
    cases h
  · cases hop : isOp (numAt S pos 1)
    · rw [ins0_op hgt hop] at h
      cases h
    · rw [ins0_of hgt hop] at h ⊢
      obtain ⟨k, hk, hk2⟩ := isOp_nat hop
      rw [hk] at h ⊢
      rcases kind_form k hk2 with ⟨h1, h2⟩ | ⟨h1, h2⟩ | ⟨h1, h2⟩ | ⟨h1, h2⟩
      · rw [h2]
        exact ⟨pos + 1, rfl, by omega⟩
      · rw [h2, loop_one] at h ⊢
        exact ⟨_, arg_good h⟩
      · rw [h2, loop_one, arg_n] at h ⊢
        exact ⟨_, num0_good h⟩
      · rw [h2, loop_two] at h ⊢
        by_cases hz : (num0 S 2 (pos + 1)).2.kind = 0
        · rw [if_pos hz] at h ⊢
          exact ⟨_, num0_good h⟩
        · rw [if_neg hz] at h
          exact absurd h hz
theorem insN_stop (S : ByteArray) : ∀ (n : Nat) (s : List In × Rs), ¬ s.2.kind = 0 → insN S n s = s
  | 0, _, _ => rfl
  | n + 1, s, h => by rw [insN, if_neg h]
theorem make48 (n : Nat) (hn : n ≤ 4000000) (w : World) : (Instr.makeSlice 48 (.int .i64 0) (.int .i64 (n : Int))).run Tryd.prog w = .ok (.slice (some ⟨w.heap.size, 0, none⟩) 0 n) (w.alloc (.cells (madeCells #[.int .i64 0, .int .i64 0, .int .i64 0] (n * 3)) 47)) := by
  obtain ⟨i, h1, h2, h3, h4⟩ := info_parts infos42
  have hr := run_make (P := Tryd.prog) w 48 47 i _ Tryd.underlying48 h1 h2 .i64 .i64 0 (n : Int) (by omega) (by omega) (by rw [h4]; omega) (by omega)
  rw [h3] at hr
  have e : ((n : Int)).toNat = n := by omega
  rw [e] at hr
  exact hr
theorem made48 (w : World) (n : Nat) (hn : n ≤ 4000000) (base : Nat) (hb : base ≤ w.heap.size) : (w.alloc (.cells (madeCells #[.int .i64 0, .int .i64 0, .int .i64 0] (n * 3)) 47)).ownsRow base 47 3 (.slice (some ⟨w.heap.size, 0, none⟩) 0 n) 0 [] :=
  World.ownsRow_made w _ n hb (by unfold maxLen; omega) (by simp [madeCells])
def insL (S : ByteArray) (pos : Nat) : List In × Rs := insN S (num0 S 2 pos).1.toNat ([], (num0 S 2 pos).2)
inductive InsPost (w : World) (rp : Nat) (S : ByteArray) (l : List In) (r : Rs) (e : Ending) (w' : World) : Prop
  | mk (q : Option Addr) (m cap : Nat) (he : e = .returned (.tuple #[.slice q m cap, evR r.kind r.fat])) (hr : r.kind = 0 → m = l.length ∧ InsIn w' q l ∧ (∀ b, q = some b → w.heap.size ≤ b.block ∧ b.block < w'.heap.size) ∧ PBox w' rp S r.pos ∧ r.fat = 0 ∧ r.pos ≤ S.size ∧ l.length ≤ 65535) (hk : Kp [rp] w w') : InsPost w rp S l r e w'
section
set_option maxHeartbeats 8000000
set_option maxRecDepth 100000
theorem insL_read (w : World) (rp : Nat) (S : ByteArray) (pos : Nat) (h : PBox w rp S pos) (hSh : ShIn w) (hrp : 1 ≠ rp) (hS : S.size ≤ 4000000) (hp : pos ≤ 4000000) : Calls Tryd.prog 60 #[.pointer (some ⟨rp, 0, none⟩), .func (.func 61) #[] #[]] w fun e w' => InsPost w rp S (insL S pos).1 (insL S pos).2 e w' := by
  have Hc : Hid _ := two_read w rp S pos h hS hp
  have hrg := num0_range S pos
  have Hgood : Hid _ := num0_good (S := S) (n := 2) (pos := pos)
  have Hbad : Hid _ := num0_bad (S := S) (n := 2) (pos := pos)
  have HSh : Hid (∀ wx, Kp [rp] w wx → ShIn wx) := fun wx hx => hSh.of_block (hx.block 1 hSh.lt (by simpa using hrp))
  have hrl := h.lt
  obtain ⟨R, hR⟩ : ∃ R, R = insL S pos := ⟨_, rfl⟩
  rw [← hR]
  unfold insL at hR
  have HR : Hid _ := hR
  clear hR h hSh
  generalize num0 S 2 pos = A at *
  obtain ⟨n, r1⟩ := A
  simp only at Hc hrg Hgood Hbad HR
  obtain ⟨k, rfl⟩ : ∃ k : Nat, n = (k : Int) := ⟨n.toNat, by omega⟩
  rw [Int.toNat_natCast] at HR
  have hk16 : k ≤ 65535 := by omega
  go_enter Tryd.func60, Tryd.ntmps60
  go_wp2_with fail
  refine Calls.mono Hc.out ?_
  rintro e1 w1 ⟨rfl, p1, k1⟩
  have Hp1 : Hid (PBox w1 rp S r1.pos ∧ Kp [rp] w w1) := ⟨p1, k1⟩
  clear p1 k1 Hc
  by_cases hz : ¬ r1.kind = 0
  · have hk0 : (k : Int) = 0 := Hbad.out hz
    obtain rfl : k = 0 := by omega
    have hR2 : R = ([], r1) := HR.out
    subst hR2
    have Hev : Hid (evR r1.kind r1.fat = .iface 63 (.agg #[.int .i64 r1.kind, .int .i64 r1.fat])) := evR_err hz
    have Hz : Hid (¬ r1.kind = 0) := hz
    rw [Hev.out]
    clear hz HR hk0 Hbad Hgood
    go_wp2
    exact bodyPost_ret (v := .tuple #[.slice none 0 0, .iface 63 (.agg #[.int .i64 r1.kind, .int .i64 r1.fat])]) (by simp [results, Tryd.results60, go_sem]) rfl ⟨none, 0, 0, by rw [Hev.out], fun h => absurd h Hz.out, Hp1.out.2⟩
  replace hz : r1.kind = 0 := Decidable.not_not.1 hz
  obtain ⟨e1, hle⟩ := Hgood.out hz
  subst e1
  clear hz Hbad Hgood
  rw [evR_nil rfl]
  obtain ⟨m, hm⟩ : ∃ m : Nat, S.size = pos + 2 + m := ⟨S.size - (pos + 2), by omega⟩
  have Hl : Hid _ := left_any w1 rp S (pos + 2) Hp1.out.1 (by omega) (by omega)
  rw [show (S.size : Int) - ((pos + 2 : Nat) : Int) = (m : Int) by omega] at Hl
  have hm4 : m ≤ 4000000 := by omega
  clear hm
  go_upto_region 4 with fail
  go_cut [8] from 19 to 23 (fun v wx => Hid (wx.ownsRow w.heap.size 47 3 v 0 (inRow []) ∧ PBox wx rp S ((pos + 2 : Nat) : Int) ∧ Kp [rp] w wx))
  case first =>
    go_wp2_with fail
    refine Calls.mono Hl.out ?_
    rintro e2 w2 ⟨rfl, k2⟩
    have Hp2 : Hid (PBox w2 rp S ((pos + 2 : Nat) : Int) ∧ Kp [rp] w w2) := ⟨PBox.kp Hp1.out.1 k2 (by simp), Kp.trans Hp1.out.2 (Kp.mono k2 (by simp))⟩
    clear Hl k2 Hp1
    have Hmk : Hid (∀ n : Nat, n ≤ 4000000 → (w2.alloc (.cells (madeCells #[.int .i64 0, .int .i64 0, .int .i64 0] (n * 3)) 47)).ownsRow w.heap.size 47 3 (.slice (some ⟨w2.heap.size, 0, none⟩) 0 n) 0 (inRow []) ∧ PBox (w2.alloc (.cells (madeCells #[.int .i64 0, .int .i64 0, .int .i64 0] (n * 3)) 47)) rp S ((pos + 2 : Nat) : Int) ∧ Kp [rp] w (w2.alloc (.cells (madeCells #[.int .i64 0, .int .i64 0, .int .i64 0] (n * 3)) 47))) := fun n hn => ⟨made48 w2 n hn w.heap.size (Kp.size Hp2.out.2), PBox.kp Hp2.out.1 (Kp.alloc [] _ _) (by simp), Kp.trans Hp2.out.2 (Kp.alloc _ _ _)⟩
    by_cases hkm : (k : Int) ≤ m
    · have hmk := make48 k (by omega) w2
      go_wp2
      go_meet
      exact Hmk.out k (by omega)
    · have hmk := make48 m (by omega) w2
      go_wp2
      go_meet
      exact Hmk.out m (by omega)
  case rest =>
    have HQ0 := hcut
    clear hcut Hp1 Hl
    rename World => w3
    go_wp2_with fail
    go_loopg [8, 25] k (fun g vv iv wr => ∃ i : Nat, iv = .int .i64 i ∧ i ≤ k ∧ g = k - i ∧ Hid (∃ (l : List In) (P : Nat), insN S (k - i) (l, ⟨P, 0, 0⟩) = R ∧ P ≤ S.size ∧ l.length = i ∧ wr.ownsRow w.heap.size 47 3 vv l.length (inRow l) ∧ PBox wr rp S P ∧ Kp [rp] w wr))
    case atStart => exact ⟨0, rfl, by omega, by omega, [], pos + 2, HR.out.symm, hle, rfl, HQ0.out.1, HQ0.out.2⟩
    case round =>
      clear HQ0 HR
      obtain ⟨i, rfl, hi1, rfl, HQ⟩ := hrel
      obtain ⟨l, P, q1, q2, q3, q4, q5, q6⟩ := HQ.out
      clear HQ
      by_cases hi : i < k
      · have hi' : (i : Int) < k := by omega
        have Hc : Hid _ := ins_read wr rp S P q5 (HSh.out wr q6) hrp hS (by omega)
        have Hgood : Hid _ := ins0_good (S := S) (pos := P)
        rw [show k - i = (k - (i + 1)) + 1 by omega, insN, if_pos rfl] at q1
        have e0 : insR S ⟨P, 0, 0⟩ = ins0 S P := rfl
        simp only [e0] at q1
        clear e0
        generalize ins0 S P = A at *
        obtain ⟨x, r2⟩ := A
        simp only at Hc Hgood q1
        have Hq : Hid _ := And.intro q1 (And.intro q3 (And.intro q4 q6))
        clear q1 q2 q3 q4 q5 q6
        go_wp2_with fail
        refine Calls.mono Hc.out ?_
        rintro e4 w4 ⟨rfl, p4, k4⟩
        have hb4 : w4.heap[w4.heap.size]? = none := by simp
        have H5 : Hid (PBox (w4.alloc (.cells #[.int .i64 x.op, .int .i64 x.a, .int .i64 x.b] 47)) rp S r2.pos ∧ Kp [rp] wr (w4.alloc (.cells #[.int .i64 x.op, .int .i64 x.a, .int .i64 x.b] 47)) ∧ XBox (w4.alloc (.cells #[.int .i64 x.op, .int .i64 x.a, .int .i64 x.b] 47)) w4.heap.size x) := ⟨p4.kp (Kp.alloc [] _ _) (by simp), k4.trans (Kp.alloc _ _ _), (MapKept.heap_alloc w4 _).1⟩
        clear p4 k4 Hc hb4
        go_upto_region 8 with fail
        generalize w4.alloc (.cells #[.int .i64 x.op, .int .i64 x.a, .int .i64 x.b] 47) = w5 at *
        generalize w4.heap.size = xb at *
        obtain ⟨x0, x1, x2, _⟩ := XBox.cells H5.out.2.2
        have x3 := XBox.lt H5.out.2.2
        by_cases hz : ¬ r2.kind = 0
        · have hR2 : (l ++ [x], r2) = R := by rw [← Hq.out.1, insN_stop S _ _ hz]
          subst hR2
          have Hev : Hid (evR r2.kind r2.fat = .iface 63 (.agg #[.int .i64 r2.kind, .int .i64 r2.fat])) := evR_err hz
          have Hz : Hid (¬ r2.kind = 0) := hz
          have HK : Hid (Kp [rp] w w5) := Kp.trans Hq.out.2.2.2 H5.out.2.1
          rw [Hev.out]
          clear hz Hq Hgood H5
          go_wp2
          exact bodyPost_ret (v := .tuple #[.slice none 0 0, .iface 63 (.agg #[.int .i64 r2.kind, .int .i64 r2.fat])]) (by simp [results, Tryd.results60, go_sem]) rfl ⟨none, 0, 0, by rw [Hev.out], fun h => absurd h Hz.out, HK.out⟩
        · replace hz : r2.kind = 0 := Decidable.not_not.1 hz
          obtain ⟨P2, rfl, hP2⟩ := Hgood.out hz
          clear hz Hgood
          rw [evR_nil rfl]
          have hown : w5.ownsRow w.heap.size 47 3 u8 l.length (inRow l) := ownsRow.kp Hq.out.2.2.1 H5.out.2.1 (fun g hg => by have := (Hq.out.2.2.1.lt g hg).1; simp only [List.mem_singleton]; omega)
          have hsz5 : w.heap.size ≤ w5.heap.size := Kp.size (Kp.trans Hq.out.2.2.2 H5.out.2.1)
          have hll : l.length ≤ 65535 := by have := Hq.out.2.1; omega
          obtain ⟨i0, hi0, hzz0, hzz1, hzz2⟩ := info_parts infos42
          go_wp2_with (at_builtin; refine wpList_append_lies _ rfl _ _ 48 rfl w.heap.size 47 i0 (.agg #[.int .i64 0, .int .i64 0, .int .i64 0]) 3 24 slice43 hi0 hzz0 hzz1 hzz2 rfl (by decide) _ _ _ rfl (hown.alloc _) ⟨w5.heap.size, 0, none⟩ 1 1 [.int .i64 x.op, .int .i64 x.a, .int .i64 x.b] rfl rfl (cells3_new w5 _ _ _ _) (one3 x.op x.a x.b) (by decide) (by unfold maxLen; omega) (by omega) (by simp; omega) (w5.heap.size + 1) (by simp) ?_)
          intro g9 cap9 w9 ho9 hg9 hat9 hlt9
          have Q : Hid (∃ (l2 : List In) (P : Nat), insN S (k - (i + 1)) (l2, ⟨P, 0, 0⟩) = R ∧ P ≤ S.size ∧ l2.length = i + 1 ∧ w9.ownsRow w.heap.size 47 3 (.slice (some ⟨g9, 0, none⟩) (l.length + 1) cap9) l2.length (inRow l2) ∧ PBox w9 rp S P ∧ Kp [rp] w w9) := by
            have hk9 := kp_grown hg9
            have hb : ∀ g, u8.ownBlock = some g → w.heap.size ≤ g := fun g hg => (hown.lt g hg).1
            refine ⟨l ++ [x], P2, Hq.out.1, hP2, by rw [List.length_append, Hq.out.2.1]; rfl, ?_, ?_, ?_⟩
            · rw [List.length_append, inRow_snoc]
              exact ho9
            · refine PBox.kp (PBox.kp H5.out.1 (Kp.alloc [] _ _) (by simp)) hk9 (fun hx => ?_)
              have := hb rp (by simpa using hx)
              omega
            · refine Kp.then ((Kp.trans Hq.out.2.2.2 H5.out.2.1).trans (Kp.alloc _ _ _)) hk9 (fun y hy => Or.inr (hb y (by simpa using hy)))
          clear ho9 hg9 hat9 hlt9 hown Hq H5 x0 x1 x2 x3
          go_wp2
          go_roundg (k - (i + 1))
          case measure => omega
          case rel => exact ⟨i + 1, by first | rfl | (congr 1; omega) | go_num, by omega, rfl, Q⟩
      · have hi' : ¬ (i : Int) < k := by omega
        rw [show k - i = 0 by omega, insN] at q1
        subst q1
        obtain ⟨q, cap, e1, hIn, hbl⟩ := insIn_row q4 (by omega)
        subst e1
        have Hq : Hid _ := And.intro hIn (And.intro hbl (And.intro q5 (And.intro q2 (And.intro q3 q6))))
        clear q2 q3 q4 q5 q6 hIn hbl
        go_wp2
        refine bodyPost_ret (v := .tuple #[.slice q l.length cap, .nilIface]) (by simp [results, Tryd.results60, go_sem]) rfl ⟨q, l.length, cap, rfl, fun _ => ⟨rfl, Hq.out.1, fun b hb => ⟨(Hq.out.2.1 b hb).2.1, (Hq.out.2.1 b hb).2.2⟩, Hq.out.2.2.1, rfl, Hq.out.2.2.2.1, by have := Hq.out.2.2.2.2.1; show l.length ≤ 65535; omega⟩, Hq.out.2.2.2.2.2⟩
end
end Go.Proofs.YtimdjcffmajmnaaDoor
