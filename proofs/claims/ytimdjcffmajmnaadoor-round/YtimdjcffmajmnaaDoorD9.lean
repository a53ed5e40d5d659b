/-
  The program's reader of bytes: how many things there are, and these: texts (list of text).
-/
import Derived.Test.YtimdjcffmajmnaaDoorD8
namespace Go.Proofs.YtimdjcffmajmnaaDoor
open Go.RowKit Go.Deep
theorem text0_good {S : ByteArray} {pos : Nat} (h : (text0 S pos).2.kind = 0) : ∃ P, (text0 S pos).2 = ⟨P, 0, 0⟩ ∧ P ≤ S.size := by
  unfold text0 at h ⊢
  by_cases h1 : (S.size : Int) - pos < (1 : Nat)
  · rw [if_pos h1] at h
    cases h
  · rw [if_neg h1] at h ⊢
    by_cases h2 : 200 < numAt S pos 1
    · rw [if_pos h2] at h
      cases h
    · rw [if_neg h2] at h ⊢
      by_cases h3 : (S.size : Int) - (pos + 1 : Nat) < (numAt S pos 1).toNat
      · rw [if_pos h3] at h
        cases h
      · rw [if_neg h3]
        exact ⟨_, rfl, by omega⟩
theorem textsR_stop (S : ByteArray) : ∀ (n : Nat) (s : List ByteArray × Rs), ¬ s.2.kind = 0 → textsR S n s = s
  | 0, _, _ => rfl
  | n + 1, s, h => by rw [textsR, if_neg h]
theorem make22 (n : Nat) (hn : n ≤ 4000000) (w : World) : (Instr.makeSlice 22 (.int .i64 0) (.int .i64 (n : Int))).run Tryd.prog w = .ok (.slice (some ⟨w.heap.size, 0, none⟩) 0 n) (w.alloc (.cells (madeCells #[.string ⟨#[]⟩] n) 9)) := by
  obtain ⟨i, h1, h2, h3, h4⟩ := info_parts infos9
  have hr := run_make (P := Tryd.prog) w 22 9 i _ Tryd.underlying22 h1 h2 .i64 .i64 0 (n : Int) (by omega) (by omega) (by rw [h4]; omega) (by omega)
  rw [h3] at hr
  have e : ((n : Int)).toNat * 1 = n := by omega
  rw [e] at hr
  exact hr
theorem made22 (w : World) (n : Nat) (hn : n ≤ 4000000) (base : Nat) (hb : base ≤ w.heap.size) : (w.alloc (.cells (madeCells #[.string ⟨#[]⟩] n) 9)).ownsRow base 9 1 (.slice (some ⟨w.heap.size, 0, none⟩) 0 n) 0 [] :=
  World.ownsRow_made w _ n hb (by unfold maxLen; omega) (by simp [madeCells])
def textsL (S : ByteArray) (pos : Nat) : List ByteArray × Rs := textsR S (num0 S 2 pos).1.toNat ([], (num0 S 2 pos).2)
inductive TextsPost (w : World) (rp : Nat) (S : ByteArray) (l : List ByteArray) (r : Rs) (e : Ending) (w' : World) : Prop
  | mk (q : Option Addr) (m cap : Nat) (he : e = .returned (.tuple #[.slice q m cap, evR r.kind r.fat])) (hr : r.kind = 0 → m = l.length ∧ TextsIn w' q l ∧ (∀ b, q = some b → w.heap.size ≤ b.block ∧ b.block < w'.heap.size) ∧ PBox w' rp S r.pos ∧ r.fat = 0 ∧ r.pos ≤ S.size ∧ l.length ≤ 65535) (hk : Kp [rp] w w') : TextsPost w rp S l r e w'
section
set_option maxHeartbeats 8000000
set_option maxRecDepth 100000
theorem textsL_read (w : World) (rp : Nat) (S : ByteArray) (pos : Nat) (h : PBox w rp S pos) (hS : S.size ≤ 4000000) (hp : pos ≤ 4000000) : Calls Tryd.prog 36 #[.pointer (some ⟨rp, 0, none⟩), .func (.func 37) #[] #[]] w fun e w' => TextsPost w rp S (textsL S pos).1 (textsL S pos).2 e w' := by
  have Hc : Hid _ := two_read w rp S pos h hS hp
  have hrg := num0_range S pos
  have Hgood : Hid _ := num0_good (S := S) (n := 2) (pos := pos)
  have Hbad : Hid _ := num0_bad (S := S) (n := 2) (pos := pos)
  have hrl := h.lt
  obtain ⟨R, hR⟩ : ∃ R, R = textsL S pos := ⟨_, rfl⟩
  rw [← hR]
  unfold textsL at hR
  have HR : Hid _ := hR
  clear hR h
  generalize num0 S 2 pos = A at *
  obtain ⟨n, r1⟩ := A
  simp only at Hc hrg Hgood Hbad HR
  obtain ⟨k, rfl⟩ : ∃ k : Nat, n = (k : Int) := ⟨n.toNat, by omega⟩
  rw [Int.toNat_natCast] at HR
  have hk16 : k ≤ 65535 := by omega
  go_enter Tryd.func36, Tryd.ntmps36
  go_wp2_with fail
  refine Calls.mono Hc.out ?_
  rintro e1 w1 ⟨rfl, p1, k1⟩
  have Hp1 : Hid (PBox w1 rp S r1.pos ∧ Kp [rp] w w1) := ⟨p1, k1⟩
  clear p1 k1 Hc
  by_cases hz : ¬ r1.kind = 0
  · have hk0 : (k : Int) = 0 := Hbad.out hz
    obtain rfl : k = 0 := by omega
    have hR2 : R = ([], r1) := HR.out
    subst hR2
    have Hev : Hid (evR r1.kind r1.fat = .iface 63 (.agg #[.int .i64 r1.kind, .int .i64 r1.fat])) := evR_err hz
    have Hz : Hid (¬ r1.kind = 0) := hz
    rw [Hev.out]
    clear hz HR hk0 Hbad Hgood
    go_wp2
    exact bodyPost_ret (v := .tuple #[.slice none 0 0, .iface 63 (.agg #[.int .i64 r1.kind, .int .i64 r1.fat])]) (by simp [results, Tryd.results36, go_sem]) rfl ⟨none, 0, 0, by rw [Hev.out], fun h => absurd h Hz.out, Hp1.out.2⟩
  replace hz : r1.kind = 0 := Decidable.not_not.1 hz
  obtain ⟨e1, hle⟩ := Hgood.out hz
  subst e1
  clear hz Hbad Hgood
  rw [evR_nil rfl]
  obtain ⟨m, hm⟩ : ∃ m : Nat, S.size = pos + 2 + m := ⟨S.size - (pos + 2), by omega⟩
  have Hl : Hid _ := left_any w1 rp S (pos + 2) Hp1.out.1 (by omega) (by omega)
  rw [show (S.size : Int) - ((pos + 2 : Nat) : Int) = (m : Int) by omega] at Hl
  have hm4 : m ≤ 4000000 := by omega
  clear hm
  go_upto_region 4 with fail
  go_cut [8] from 19 to 23 (fun v wx => Hid (wx.ownsRow w.heap.size 9 1 v 0 ([].map Value.string) ∧ PBox wx rp S ((pos + 2 : Nat) : Int) ∧ Kp [rp] w wx))
  case first =>
    go_wp2_with fail
    refine Calls.mono Hl.out ?_
    rintro e2 w2 ⟨rfl, k2⟩
    have Hp2 : Hid (PBox w2 rp S ((pos + 2 : Nat) : Int) ∧ Kp [rp] w w2) := ⟨PBox.kp Hp1.out.1 k2 (by simp), Kp.trans Hp1.out.2 (Kp.mono k2 (by simp))⟩
    clear Hl k2 Hp1
    have Hmk : Hid (∀ n : Nat, n ≤ 4000000 → (w2.alloc (.cells (madeCells #[.string ⟨#[]⟩] n) 9)).ownsRow w.heap.size 9 1 (.slice (some ⟨w2.heap.size, 0, none⟩) 0 n) 0 ([].map Value.string) ∧ PBox (w2.alloc (.cells (madeCells #[.string ⟨#[]⟩] n) 9)) rp S ((pos + 2 : Nat) : Int) ∧ Kp [rp] w (w2.alloc (.cells (madeCells #[.string ⟨#[]⟩] n) 9))) := fun n hn => ⟨made22 w2 n hn w.heap.size (Kp.size Hp2.out.2), PBox.kp Hp2.out.1 (Kp.alloc [] _ _) (by simp), Kp.trans Hp2.out.2 (Kp.alloc _ _ _)⟩
    by_cases hkm : (k : Int) ≤ m
    · have hmk := make22 k (by omega) w2
      go_wp2
      go_meet
      exact Hmk.out k (by omega)
    · have hmk := make22 m (by omega) w2
      go_wp2
      go_meet
      exact Hmk.out m (by omega)
  case rest =>
    have HQ0 := hcut
    clear hcut Hp1 Hl
    rename World => w3
    go_wp2_with fail
    go_loopg [8, 25] k (fun g vv iv wr => ∃ i : Nat, iv = .int .i64 i ∧ i ≤ k ∧ g = k - i ∧ Hid (∃ (l : List ByteArray) (P : Nat), textsR S (k - i) (l, ⟨P, 0, 0⟩) = R ∧ P ≤ S.size ∧ l.length = i ∧ wr.ownsRow w.heap.size 9 1 vv l.length (l.map Value.string) ∧ PBox wr rp S P ∧ Kp [rp] w wr))
    case atStart => exact ⟨0, rfl, by omega, by omega, [], pos + 2, HR.out.symm, hle, rfl, HQ0.out.1, HQ0.out.2⟩
    case round =>
      clear HQ0 HR
      obtain ⟨i, rfl, hi1, rfl, HQ⟩ := hrel
      obtain ⟨l, P, q1, q2, q3, q4, q5, q6⟩ := HQ.out
      clear HQ
      by_cases hi : i < k
      · have hi' : (i : Int) < k := by omega
        have Hc : Hid _ := text_read wr rp S P q5 hS (by omega)
        have Hgood : Hid _ := text0_good (S := S) (pos := P)
        rw [show k - i = (k - (i + 1)) + 1 by omega, textsR, if_pos rfl, textR_eq] at q1
        generalize text0 S P = A at *
        obtain ⟨x, r2⟩ := A
        simp only at Hc Hgood q1
        have Hq : Hid _ := And.intro q1 (And.intro q3 (And.intro q4 q6))
        clear q1 q2 q3 q4 q5 q6
        go_wp2_with fail
        refine Calls.mono Hc.out ?_
        rintro e4 w5 ⟨rfl, p4, k4⟩
        have H5 : Hid (PBox w5 rp S r2.pos ∧ Kp [rp] wr w5) := ⟨p4, k4⟩
        clear p4 k4 Hc
        go_upto_region 8 with fail
        by_cases hz : ¬ r2.kind = 0
        · have hR2 : (l, r2) = R := by rw [← Hq.out.1, if_neg hz, textsR_stop S _ _ hz]
          subst hR2
          have Hev : Hid (evR r2.kind r2.fat = .iface 63 (.agg #[.int .i64 r2.kind, .int .i64 r2.fat])) := evR_err hz
          have Hz : Hid (¬ r2.kind = 0) := hz
          have HK : Hid (Kp [rp] w w5) := Kp.trans Hq.out.2.2.2 H5.out.2
          rw [Hev.out]
          clear hz Hq Hgood H5
          go_wp2
          exact bodyPost_ret (v := .tuple #[.slice none 0 0, .iface 63 (.agg #[.int .i64 r2.kind, .int .i64 r2.fat])]) (by simp [results, Tryd.results36, go_sem]) rfl ⟨none, 0, 0, by rw [Hev.out], fun h => absurd h Hz.out, HK.out⟩
        · replace hz : r2.kind = 0 := Decidable.not_not.1 hz
          obtain ⟨P2, rfl, hP2⟩ := Hgood.out hz
          clear hz Hgood
          rw [evR_nil rfl]
          have hown : w5.ownsRow w.heap.size 9 1 u8 l.length (l.map Value.string) := ownsRow.kp Hq.out.2.2.1 H5.out.2 (fun g hg => by have := (Hq.out.2.2.1.lt g hg).1; simp only [List.mem_singleton]; omega)
          have hsz5 : w.heap.size ≤ w5.heap.size := Kp.size (Kp.trans Hq.out.2.2.2 H5.out.2)
          have hll : l.length ≤ 65535 := by have := Hq.out.2.1; omega
          obtain ⟨i0, hi0, hzz0, hzz1, hzz2⟩ := info_parts infos9
          go_wp2_with (at_builtin; refine wpList_append_lies _ rfl _ _ 22 rfl w.heap.size 9 i0 (.string { data := #[] }) 1 16 slice22 hi0 hzz0 hzz1 hzz2 rfl (by decide) _ _ _ rfl (hown.alloc _) ⟨w5.heap.size, 0, none⟩ 1 1 [.string x] rfl rfl (cell_one_new w5 _ _) (by simp [Value.oneCell']) (by decide) (by unfold maxLen; omega) (by omega) (by simp; omega) (w5.heap.size + 1) (by simp) ?_)
          intro g9 cap9 w9 ho9 hg9 hat9 hlt9
          have Q : Hid (∃ (l2 : List ByteArray) (P : Nat), textsR S (k - (i + 1)) (l2, ⟨P, 0, 0⟩) = R ∧ P ≤ S.size ∧ l2.length = i + 1 ∧ w9.ownsRow w.heap.size 9 1 (.slice (some ⟨g9, 0, none⟩) (l.length + 1) cap9) l2.length (l2.map Value.string) ∧ PBox w9 rp S P ∧ Kp [rp] w w9) := by
            have hk9 := kp_grown hg9
            have hb : ∀ g, u8.ownBlock = some g → w.heap.size ≤ g := fun g hg => (hown.lt g hg).1
            refine ⟨l ++ [x], P2, by rw [← Hq.out.1]; rfl, hP2, by rw [List.length_append, Hq.out.2.1]; rfl, ?_, ?_, ?_⟩
            · rw [List.length_append, List.map_append]
              exact ho9
            · refine PBox.kp (PBox.kp H5.out.1 (Kp.alloc [] _ _) (by simp)) hk9 (fun hx => ?_)
              have := hb rp (by simpa using hx)
              omega
            · refine Kp.then ((Kp.trans Hq.out.2.2.2 H5.out.2).trans (Kp.alloc _ _ _)) hk9 (fun y hy => Or.inr (hb y (by simpa using hy)))
          clear ho9 hg9 hat9 hlt9 hown Hq H5
          go_wp2
          go_roundg (k - (i + 1))
          case measure => omega
          case rel => exact ⟨i + 1, by first | rfl | (congr 1; omega) | go_num, by omega, rfl, Q⟩
      · have hi' : ¬ (i : Int) < k := by omega
        rw [show k - i = 0 by omega, textsR] at q1
        subst q1
        obtain ⟨q, cap, e1, hIn⟩ := textsIn_row q4 (by omega)
        have hbl := q4.lt
        subst e1
        have Hq : Hid _ := And.intro hIn (And.intro hbl (And.intro q5 (And.intro q2 (And.intro q3 q6))))
        clear q2 q3 q4 q5 q6 hIn hbl
        go_wp2
        refine bodyPost_ret (v := .tuple #[.slice q l.length cap, .nilIface]) (by simp [results, Tryd.results36, go_sem]) rfl ⟨q, l.length, cap, rfl, fun _ => ⟨rfl, Hq.out.1, fun b hb => Hq.out.2.1 b.block (by rw [hb]; rfl), Hq.out.2.2.1, rfl, Hq.out.2.2.2.1, by have := Hq.out.2.2.2.2.1; show l.length ≤ 65535; omega⟩, Hq.out.2.2.2.2.2⟩
end
end Go.Proofs.YtimdjcffmajmnaaDoor
