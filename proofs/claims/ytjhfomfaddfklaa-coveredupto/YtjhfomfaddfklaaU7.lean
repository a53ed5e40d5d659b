/-
  The document's layer matches: what rows ask for behind a first value (rests).
-/
import Derived.Test.YtjhfomfaddfklaaU6
import Derived.Test.YtjhfomfaddfklaaReg
namespace Go.Proofs.Ytjhfomfaddfklaa
open Go.RowKit Go.Deep
section
set_option maxHeartbeats 8000000
set_option maxRecDepth 100000
theorem rests_any (wb w : World) (p : Option Addr) (cap : Nat) (m : List (List Pt)) (h : PC) (Hh : Pt) (hw : Below wb.heap.size wb w) (hp : MatAt wb w p m) (hh : PtIn wb h Hh) (hf : Fine m) (hk : Hh.kids.length ≤ 1000) :
    Calls Try.prog 35 #[.slice p m.length cap, h.val] w fun e w' => MatPost wb (restsP Hh m) w e w' := by
  obtain ⟨hk0, hn, ho, ha, hs, hp', hlen, hcap'⟩ := h
  have hbx := pbox_new w ⟨hk0, hn, ho, ha, hs, hp', hlen, hcap'⟩
  have hba : Below w.heap.size w (w.alloc (PC.obj ⟨hk0, hn, ho, ha, hs, hp', hlen, hcap'⟩)) := (Below.refl _ _).alloc (Nat.le_refl _) _
  have hwa : Below wb.heap.size wb _ := hw.trans (hba.mono hw.size)
  have Hbx : Hid (PBox _ _ _) := hbx
  have Hm : Hid (MatAt _ _ _ _) := hp.below hba
  have Hwa : Hid _ := hwa
  have Hba : Hid _ := hba
  have HH : Hid (PtIn wb ⟨hk0, hn, ho, ha, hs, hp', hlen, hcap'⟩ Hh) := hh
  have Hf : Hid (Fine m) := hf
  have hml := hf.len
  clear hbx hp hwa hba hh hw hf
  simp only [PC.val, PC.obj] at *
  go_enter Try.func35, Try.ntmps35
  go_wp2_with fail
  generalize w.alloc (Obj.cells #[Value.int IntKind.i64 hk0, Value.int IntKind.i64 hn, Value.int IntKind.i64 ho, Value.int IntKind.i64 ha, Value.string hs, Value.slice hp' hlen hcap'] 26) = w1 at *
  go_loopg [5, 6] m.length (fun g v iv wr => ∃ (i : Nat) (M : List RC) (v' : Value), v' = v ∧ iv = .int .i64 i ∧ i ≤ m.length ∧ g = m.length - i ∧ Hid (OwnM wb wr w1.heap.size v' M ∧ M.map (·.l) = restsP Hh (m.take i) ∧ Below w1.heap.size w1 wr ∧ M.length ≤ i))
  case atStart => exact ⟨0, [], _, rfl, rfl, by omega, by omega, OwnM.nil _ _ _, by simp [restsP], Below.refl _ _, by simp⟩
  case round =>
    obtain ⟨i, M, v5, hv5, rfl, hi1, rfl, HL⟩ := hrel
    subst hv5
    obtain ⟨q1, q2, q3, q4⟩ := HL.out
    clear HL
    by_cases hi : i < m.length
    · have hi' : (i : Int) < m.length := by omega
      obtain ⟨b, o, z, zc, rfl, hcell, hzc, hrow⟩ := Hm.out.get i hi
      obtain ⟨f1, f2, f3⟩ := Hf.out.rows _ (List.getElem_mem hi)
      have htk : m.take (i + 1) = m.take i ++ [m[i]'hi] := List.take_succ_eq_append_getElem hi
      generalize m[i]'hi = row at *
      obtain ⟨x, r, rfl⟩ : ∃ x r, row = x :: r := by
        cases row with
        | nil => exact absurd rfl f1
        | cons x r => exact ⟨x, r, rfl⟩
      have Htk : Hid (m.take (i + 1) = m.take i ++ [x :: r]) := htk
      have Q1 : Hid (OwnM wb wr w1.heap.size v5 M) := q1
      have Q2 : Hid (M.map (·.l) = restsP Hh (m.take i)) := q2
      have Q3 : Hid (Below w1.heap.size w1 wr) := q3
      have hrl : r.length ≤ 300000 := by simp at f2; omega
      have hxg := f3 x (by simp)
      have hxk := (good_kids (good_bare x hxg)).1
      have hzc' : r.length + 1 ≤ zc := by simpa using hzc
      have Hcl : Hid (∀ wx, Below wr.heap.size wr wx → (wx.cell? ⟨w.heap.size, 0, none⟩ = some (.int .i64 hk0) ∧ wx.cell? ⟨w.heap.size, 1, none⟩ = some (.int .i64 hn) ∧ wx.cell? ⟨w.heap.size, 2, none⟩ = some (.int .i64 ho) ∧ wx.cell? ⟨w.heap.size, 3, none⟩ = some (.int .i64 ha) ∧ wx.cell? ⟨w.heap.size, 4, none⟩ = some (.string hs) ∧ wx.cell? ⟨w.heap.size, 5, none⟩ = some (.slice hp' hlen hcap') ∧ w.heap.size < wx.heap.size) ∧ wx.cell? ⟨b, o + i, none⟩ = some (.slice z (r.length + 1) zc) ∧ b < wx.heap.size ∧ RowAt wb wx z (x :: r) ∧ Below wb.heap.size wb wx) := fun wx hx => by
        have h1x : Below w1.heap.size w1 wx := Below.then Q3.out hx (Nat.le_refl _)
        have hbl := World.block_lt_of_cell? _ _ hcell
        exact ⟨(PBox.below Hbx.out h1x).cells', (h1x.cell (p := ⟨b, o + i, none⟩) hbl).trans hcell, Nat.lt_of_lt_of_le hbl h1x.size, hrow.below h1x, Below.trans Hwa.out (h1x.mono (Below.size Hwa.out))⟩
      clear q1 q2 q3 f1 f2 f3 hzc htk hcell hrow
      go_upto_region 5 with fail
      have hCd : Below wr.heap.size wr wr.drew := (Below.refl _ _).drew
      obtain ⟨_, _, _, hrd, hwd⟩ := Hcl.out _ hCd
      have Hcall : Hid _ := rest_any wb wr.drew z zc x r ⟨hk0, hn, ho, ha, hs, hp', hlen, hcap'⟩ Hh hwd hrd HH.out hxg hzc' hrl hk hxk
      simp only [PC.val] at Hcall
      obtain ⟨R, hR⟩ : ∃ R, restP x r Hh = R := ⟨_, rfl⟩
      rw [hR] at Hcall
      have HR : Hid (restP x r Hh = R) := hR
      clear hR hrd hwd
      go_cut [7, 8] from 9 to 28 (fun a c wx => Hid (∃ q qc, a = .slice q R.1.length qc ∧ c = .bool R.2 ∧ R.1.length ≤ qc ∧ RowAt wb wx q R.1 ∧ (∀ b, q = some b → wr.heap.size ≤ b.block ∧ b.block < wx.heap.size) ∧ Below wr.heap.size wr wx))
      case first =>
        refine region_any (C := fun wx => Below wr.heap.size wr wx) (by kernel_rfl) ?_
        refine anyIn_read (i := 0) rfl (by kernel_rfl) (by kernel_rfl) (by kernel_rfl) (fun _ _ _ _ h => h) ?_
        apply Exists.intro
        refine ⟨Or.inl ⟨by rfl, fun wx hwx => ?_⟩, ?_⟩
        (obtain ⟨⟨f0, f1, f2, f3, f4, f5, f6⟩, f7, f8, _, _⟩ := Hcl.out wx hwx; go_simp; first | done | with_reducible rfl)
        refine anyIn_read (i := 1) rfl (by kernel_rfl) (by kernel_rfl) (by kernel_rfl) (fun _ _ _ _ h => h) ?_
        apply Exists.intro
        refine ⟨Or.inl ⟨by rfl, fun wx hwx => ?_⟩, ?_⟩
        (obtain ⟨⟨f0, f1, f2, f3, f4, f5, f6⟩, f7, f8, _, _⟩ := Hcl.out wx hwx; go_simp; first | done | with_reducible rfl)
        refine anyIn_read (i := 2) rfl (by kernel_rfl) (by kernel_rfl) (by kernel_rfl) (fun _ _ _ _ h => h) ?_
        apply Exists.intro
        refine ⟨Or.inl ⟨by rfl, fun wx hwx => ?_⟩, ?_⟩
        (obtain ⟨⟨f0, f1, f2, f3, f4, f5, f6⟩, f7, f8, _, _⟩ := Hcl.out wx hwx; go_simp; first | done | with_reducible rfl)
        refine anyIn_read (i := 3) rfl (by kernel_rfl) (by kernel_rfl) (by kernel_rfl) (fun _ _ _ _ h => h) ?_
        apply Exists.intro
        refine ⟨Or.inl ⟨by rfl, fun wx hwx => ?_⟩, ?_⟩
        (obtain ⟨⟨f0, f1, f2, f3, f4, f5, f6⟩, f7, f8, _, _⟩ := Hcl.out wx hwx; go_simp; first | done | with_reducible rfl)
        refine anyIn_read (i := 4) rfl (by kernel_rfl) (by kernel_rfl) (by kernel_rfl) (fun _ _ _ _ h => h) ?_
        apply Exists.intro
        refine ⟨Or.inl ⟨by rfl, fun wx hwx => ?_⟩, ?_⟩
        (obtain ⟨⟨f0, f1, f2, f3, f4, f5, f6⟩, f7, f8, _, _⟩ := Hcl.out wx hwx; go_simp; first | done | with_reducible rfl)
        refine anyIn_one (i := 5) hCd rfl (by kernel_rfl) (fun K hK => ?_)
        go_simp
        refine Calls.mono Hcall.out ?_
        rintro e9 w6 ⟨q, qc, rfl, hqc, hrow6, hq6, hb6⟩
        refine hK _ _ ?_
        clear hK K
        have hC6 : Below wr.heap.size wr w6 := Below.then hCd hb6 (Nat.le_refl _)
        refine anyIn_read (i := 6) rfl (by kernel_rfl) (by kernel_rfl) (by kernel_rfl) (fun _ _ _ _ h => h) ?_
        apply Exists.intro
        refine ⟨Or.inl ⟨by rfl, fun wx hwx => ?_⟩, ?_⟩
        (go_simp; first | done | with_reducible rfl)
        refine anyIn_read (i := 7) rfl (by kernel_rfl) (by kernel_rfl) (by kernel_rfl) (fun _ _ _ _ h => h) ?_
        apply Exists.intro
        refine ⟨Or.inl ⟨by rfl, fun wx hwx => ?_⟩, ?_⟩
        (go_simp; first | done | with_reducible rfl)
        refine anyIn_read (i := 8) rfl (by kernel_rfl) (by kernel_rfl) (by kernel_rfl) (fun _ _ _ _ h => h) ?_
        apply Exists.intro
        refine ⟨Or.inl ⟨by rfl, fun wx hwx => ?_⟩, ?_⟩
        (go_simp; first | done | with_reducible rfl)
        refine anyIn_read (i := 9) rfl (by kernel_rfl) (by kernel_rfl) (by kernel_rfl) (fun _ _ _ _ h => h) ?_
        apply Exists.intro
        refine ⟨Or.inl ⟨by rfl, fun wx hwx => ?_⟩, ?_⟩
        (go_simp; first | done | with_reducible rfl)
        refine anyIn_read (i := 10) rfl (by kernel_rfl) (by kernel_rfl) (by kernel_rfl) (fun _ _ _ _ h => h) ?_
        apply Exists.intro
        refine ⟨Or.inl ⟨by rfl, fun wx hwx => ?_⟩, ?_⟩
        (go_simp; first | done | with_reducible rfl)
        refine anyIn_done hC6 (by kernel_rfl) ?_
        go_wp2_with fail
        go_meet
        exact ⟨q, qc, rfl, rfl, hqc, hrow6, fun b hb => hq6 b hb, hC6⟩
      case rest =>
        obtain ⟨q, qc, rfl, rfl, hqc, hrow6, hq6, hC6⟩ := hcut.out
        clear hcut Hcall
        rename World => w6
        have Q1' : Hid (OwnM wb w6 w1.heap.size v5 M) := OwnM.below Q1.out hC6
        have Q3' : Hid (Below w1.heap.size w1 w6) := Below.then Q3.out hC6 (Nat.le_refl _)
        have hsep : ∀ b, q = some b → v5.ownBlock ≠ some b.block ∧ b.block < w6.heap.size := fun b hb => ⟨fun e => by have := (Q1.out.row.lt _ e).2; have := (hq6 b hb).1; omega, (hq6 b hb).2⟩
        obtain ⟨R1, R2⟩ := R
        simp only at hqc hrow6 hq6
        cases R2 with
        | true =>
          have Hnext : Hid (restsP Hh (m.take i ++ [x :: r]) = restsP Hh (m.take i) ++ [R1]) := by unfold Hid; rw [restsP_snoc, HR.out]; rfl
          have hown := Q1'.out
          have hz6 : w1.heap.size ≤ w6.heap.size := Below.size Q3'.out
          have hMl : M.length + 1 ≤ 1000000 := by omega
          go_wp2_with (at_builtin; refine wpList_append_mat rfl _ _ rfl hown ⟨q, qc, R1⟩ hrow6 hqc hsep hMl hz6 rfl rfl ?_)
          intro v7 w7 ho7 hg7
          have hb7 : Below w1.heap.size w1 w7 := by
            have h1 : Below w1.heap.size w1 (w6.alloc (.cells #[RC.val ⟨q, qc, R1⟩] 23)) := Q3'.out.alloc (Below.size Q3'.out) _
            exact h1.trans (grown_below hg7.out (fun k hk => (hown.row.lt k hk).1) h1.size)
          have Q : Hid (OwnM wb w7 w1.heap.size v7 (M ++ [(⟨q, qc, R1⟩ : RC)]) ∧ (M ++ [(⟨q, qc, R1⟩ : RC)]).map (·.l) = restsP Hh (m.take (i + 1)) ∧ Below w1.heap.size w1 w7 ∧ (M ++ [(⟨q, qc, R1⟩ : RC)]).length ≤ i + 1) := ⟨ho7.out, by rw [List.map_append, Q2.out, Htk.out, Hnext.out]; rfl, hb7, by simp; omega⟩
          clear ho7 hg7 hb7 hown hrow6 hsep hq6 hC6
          go_wp2
          go_roundg (m.length - (i + 1))
          case measure => omega
          case rel => exact ⟨i + 1, _, _, rfl, by first | rfl | (congr 1; omega) | go_num, by omega, rfl, Q⟩
        | false =>
          have Hnext : Hid (restsP Hh (m.take i ++ [x :: r]) = restsP Hh (m.take i)) := by unfold Hid; rw [restsP_snoc, HR.out]; simp
          have Q : Hid (OwnM wb w6 w1.heap.size v5 M ∧ M.map (·.l) = restsP Hh (m.take (i + 1)) ∧ Below w1.heap.size w1 w6 ∧ M.length ≤ i + 1) := ⟨Q1'.out, by rw [Q2.out, Htk.out, Hnext.out], Q3'.out, by omega⟩
          clear hrow6 hsep hq6 hC6
          go_wp2
          go_roundg (m.length - (i + 1))
          case measure => omega
          case rel => exact ⟨i + 1, _, _, rfl, by first | rfl | (congr 1; omega) | go_num, by omega, rfl, Q⟩
    · have hi' : ¬ (i : Int) < m.length := by omega
      rw [List.take_of_length_le (by omega)] at q2
      obtain ⟨q, qc, h1, h2, h3⟩ := q1.at (by unfold maxLen; omega)
      have hl : M.length = (restsP Hh m).length := by rw [← q2]; simp
      rw [hl] at h1 h2
      rw [q2] at h3
      have Q : Hid (MatPost wb (restsP Hh m) w (.returned (.slice q (restsP Hh m).length qc)) wr) := MatPost.mk q qc rfl h2 h3 (Below.trans Hba.out (q3.mono (Below.size Hba.out)))
      subst h1
      clear h2 h3 q1 q2 q3 hl
      go_wp2
      go_ret
      exact Q.out
end
end Go.Proofs.Ytjhfomfaddfklaa
