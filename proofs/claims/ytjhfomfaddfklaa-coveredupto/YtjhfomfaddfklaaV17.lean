/-
  The program's layer matches: does each value begin with one of the heads (areAll)?
-/
import Derived.Test.YtjhfomfaddfklaaMC
namespace Go.Proofs.Ytjhfomfaddfklaa
open Go.RowKit Go.Deep Go.Shelf
theorem below_drewN (w : World) (n : Nat) : Below w.heap.size w (w.drewN n) := ⟨rfl, rfl, rfl, Nat.le_refl _, fun _ _ => rfl⟩
section
set_option maxHeartbeats 8000000
set_option maxRecDepth 100000
theorem areAll_any (wb w : World) (p : Option Addr) (cap : Nat) (hs : List Pt) (hw : Below wb.heap.size wb w) (hp : HeadsAt wb w p hs) (hml : hs.length ≤ 1000) :
    Calls Try.prog 30 #[.slice p hs.length cap] w fun e w' => e = .returned (.bool (areAllL hs)) ∧ Below w.heap.size w w' := by
  cases hs with
  | nil =>
    have hb := Below.refl w.heap.size w
    simp only [List.length_nil, areAllL]
    go_enter Try.func30, Try.ntmps30
    go_wp2
    go_ret
    exact ⟨rfl, hb⟩
  | cons x r =>
    obtain ⟨b, o, v, rfl, hcell, hv⟩ := hp.line.get 0 (by simp)
    simp only [Nat.add_zero, List.getElem_cons_zero] at hcell hv
    have hk := hp.some_ x (by simp)
    obtain ⟨bx, rfl⟩ := hv.at_ hk
    have hbl := World.block_lt_of_cell? _ _ hcell
    have Hx : Hid (∀ wx, Below w.heap.size w wx → ∃ p cap, wx.cell? ⟨bx, 0, none⟩ = some (.int .i64 (bareP x).k) ∧ wx.cell? ⟨bx, 1, none⟩ = some (.int .i64 (hnum (bareP x))) ∧ wx.cell? ⟨bx, 2, none⟩ = some (.string (htxt (bareP x))) ∧ wx.cell? ⟨bx, 3, none⟩ = some (.int .i64 (bareP x).kids.length) ∧ wx.cell? ⟨bx, 4, none⟩ = some (.int .i64 (bareP x).o) ∧ wx.cell? ⟨bx, 5, none⟩ = some (.slice p (bareP x).kids.length cap) ∧ bx < wx.heap.size) := fun wx h => hv.cells hk (hw.trans (h.mono hw.size))
    have Hnum : Hid (∀ wx, Below w.heap.size w wx → Calls Try.prog 45 #[.int .i64 (bareP x).o, .slice (some ⟨b, o, none⟩) (x :: r).length cap] wx fun e w' => e = .returned (.int .i64 (cntN (bareP x).o (x :: r) : Int)) ∧ Below wx.heap.size wx w') := fun wx h => nums_any wb wx (some ⟨b, o, none⟩) cap (x :: r) (bareP x).o (hw.trans (h.mono hw.size)) (hp.below h) hml
    have hAr : areAllL (x :: r) = if (bareP x).k = 5 then true else if (bareP x).k = 6 then decide ((cntN (bareP x).o (x :: r) : Int) = (bareP x).o) else false := rfl
    generalize cntN (bareP x).o (x :: r) = N at *
    have hlen : (x :: r).length = r.length + 1 := rfl
    generalize areAllL (x :: r) = A at *
    rw [hlen] at Hnum hml ⊢
    have hCd : Below w.heap.size w w.drew := (Below.refl _ _).drew
    clear hlen hp hv hw hk
    generalize (bareP x).k = xk at *
    generalize hnum (bareP x) = xn at *
    generalize htxt (bareP x) = xs at *
    generalize (bareP x).kids.length = xm at *
    generalize (bareP x).o = xo at *
    by_cases h5 : xk = 5
    · rw [if_pos h5] at hAr
      subst hAr
      subst h5
      obtain ⟨p0, c0, f0, f1, f2, f3, f4, f5, f6⟩ := Hx.out w (Below.refl _ _)
      clear Hx Hnum f1 f2 f3 f5
      go_enter Try.func30, Try.ntmps30
      go_upto_region 4 with fail
      go_quiet (fail)
      go_wp2
      go_ret
      exact ⟨rfl, below_drewN w nq⟩
    · rw [if_neg h5] at hAr
      have b5 : (xk == 5) = false := by simpa using h5
      by_cases h6 : xk = 6
      · rw [if_pos h6] at hAr
        subst h6
        have hE : ((N : Int) == xo) = A := by
          rw [hAr]
          by_cases h : (N : Int) = xo <;> simp [h]
        clear hAr h5
        go_enter Try.func30, Try.ntmps30
        go_upto_region 4 with fail
        refine region_in (C := fun wx => Below w.heap.size w wx) (by kernel_rfl) (by kernel_rfl) hCd ?_
        (refine wpQuiet_step (fun K hK => ?_); go_simp; refine ⟨_, fun _ _ => rfl, hK _ ?_⟩; clear hK K)
        (refine wpQuiet_step (fun K hK => ?_); go_simp; refine ⟨_, fun _ _ => rfl, hK _ ?_⟩; clear hK K)
        (refine wpQuiet_step (fun K hK => ?_); go_simp; refine ⟨_, fun _ _ => rfl, hK _ ?_⟩; clear hK K)
        (refine wpQuiet_step (fun K hK => ?_); go_simp; refine ⟨_, fun _ _ => rfl, hK _ ?_⟩; clear hK K)
        refine wpQuiet_step (fun K hK => ?_)
        rw [if_pos (by rfl)]
        refine ⟨.int .i64 6, fun wx hwx => ?_, hK _ ?_⟩
        · obtain ⟨p0, c0, f0, f1, f2, f3, f4, f5, f6⟩ := Hx.out wx hwx
          unfold Oper.quietAt
          go_simp
        clear hK K
        (refine wpQuiet_step (fun K hK => ?_); go_simp; refine ⟨_, fun _ _ => rfl, hK _ ?_⟩; clear hK K)
        (refine wpQuiet_step (fun K hK => ?_); go_simp; refine ⟨_, fun _ _ => rfl, hK _ ?_⟩; clear hK K)
        (refine wpQuiet_step (fun K hK => ?_); go_simp; refine ⟨_, fun _ _ => rfl, hK _ ?_⟩; clear hK K)
        (refine wpQuiet_step (fun K hK => ?_); go_simp; refine ⟨_, fun _ _ => rfl, hK _ ?_⟩; clear hK K)
        (refine wpQuiet_step (fun K hK => ?_); go_simp; refine ⟨_, fun _ _ => rfl, hK _ ?_⟩; clear hK K)
        (refine wpQuiet_step (fun K hK => ?_); go_simp; refine ⟨_, fun _ _ => rfl, hK _ ?_⟩; clear hK K)
        refine wpQuiet_step (fun K hK => ?_)
        rw [if_pos (by rfl)]
        refine ⟨.int .i64 6, fun wx hwx => ?_, hK _ ?_⟩
        · obtain ⟨p0, c0, f0, f1, f2, f3, f4, f5, f6⟩ := Hx.out wx hwx
          unfold Oper.quietAt
          go_simp
        clear hK K
        (refine wpQuiet_step (fun K hK => ?_); go_simp; refine ⟨_, fun _ _ => rfl, hK _ ?_⟩; clear hK K)
        (refine wpQuiet_step (fun K hK => ?_); go_simp; refine ⟨_, fun _ _ => rfl, hK _ ?_⟩; clear hK K)
        (refine wpQuiet_step (fun K hK => ?_); go_simp; refine ⟨_, fun _ _ => rfl, hK _ ?_⟩; clear hK K)
        (refine wpQuiet_step (fun K hK => ?_); go_simp; refine ⟨_, fun _ _ => rfl, hK _ ?_⟩; clear hK K)
        (refine wpQuiet_step (fun K hK => ?_); go_simp; refine ⟨_, fun _ _ => rfl, hK _ ?_⟩; clear hK K)
        refine wpQuiet_step (fun K hK => ?_)
        rw [if_pos (by rfl)]
        refine ⟨.int .i64 xo, fun wx hwx => ?_, hK _ ?_⟩
        · obtain ⟨p0, c0, f0, f1, f2, f3, f4, f5, f6⟩ := Hx.out wx hwx
          unfold Oper.quietAt
          go_simp
        clear hK K
        (refine wpQuiet_step (fun K hK => ?_); go_simp; refine ⟨_, fun _ _ => rfl, hK _ ?_⟩; clear hK K)
        refine wpQuiet_step (fun K hK => ?_)
        rw [if_pos (by rfl)]
        refine ⟨.int .i64 (N : Int), fun wx hwx => ?_, hK _ ?_⟩
        · unfold Oper.quietAt
          go_simp
          refine Calls.mono (Hnum.out _ hwx) ?_
          rintro e9 w9 ⟨rfl, hb9⟩
          exact ⟨rfl, Below.then hwx hb9 (Nat.le_refl _)⟩
        clear hK K
        (refine wpQuiet_step (fun K hK => ?_); go_simp; refine ⟨_, fun _ _ => rfl, hK _ ?_⟩; clear hK K)
        (refine wpQuiet_step (fun K hK => ?_); go_simp; refine ⟨_, fun _ _ => rfl, hK _ ?_⟩; clear hK K)
        (refine wpQuiet_step (fun K hK => ?_); go_simp; refine ⟨_, fun _ _ => rfl, hK _ ?_⟩; clear hK K)
        refine wpQuiet_step (fun K hK => ?_)
        rw [if_pos (by rfl)]
        refine ⟨.int .i64 xo, fun wx hwx => ?_, hK _ ?_⟩
        · obtain ⟨p0, c0, f0, f1, f2, f3, f4, f5, f6⟩ := Hx.out wx hwx
          unfold Oper.quietAt
          go_simp
        clear hK K
        (refine wpQuiet_step (fun K hK => ?_); go_simp; refine ⟨_, fun _ _ => rfl, hK _ ?_⟩; clear hK K)
        (refine wpQuiet_step (fun K hK => ?_); go_simp; refine ⟨_, fun _ _ => rfl, hK _ ?_⟩; clear hK K)
        (refine wpQuiet_step (fun K hK => ?_); go_simp; refine ⟨_, fun _ _ => rfl, hK _ ?_⟩; clear hK K)
        (refine wpQuiet_step (fun K hK => ?_); go_simp; refine ⟨_, fun _ _ => rfl, hK _ ?_⟩; clear hK K)
        refine wpQuiet_nil ?_
        intro w9 hw9
        clear Hx Hnum
        go_simp
        go_wp2
        go_ret
        exact ⟨rfl, hw9⟩
      · rw [if_neg h6] at hAr
        have b6 : (xk == 6) = false := by simpa using h6
        subst hAr
        clear h5 h6
        obtain ⟨p0, c0, f0, f1, f2, f3, f4, f5, f6⟩ := Hx.out w (Below.refl _ _)
        clear Hx Hnum f1 f2 f3 f5
        go_enter Try.func30, Try.ntmps30
        go_upto_region 4 with fail
        go_quiet (fail)
        go_wp2
        go_ret
        exact ⟨rfl, below_drewN w nq⟩
end
end Go.Proofs.Ytjhfomfaddfklaa
