/-
  The program's layer matches: what lines ask for first, each once (headsOf).
-/
import Derived.Test.YtjhfomfaddfklaaV11
import Derived.Test.YtjhfomfaddfklaaV12
namespace Go.Proofs.Ytjhfomfaddfklaa
open Go.RowKit Go.Deep Go.Shelf
/-- Is there a part with this head? -/
def hasHd (hs : List Pt) (h : Hd) : Bool := hs.any fun y => Hd.eqb (hdOf y) h
/-- Parts that ask for something. -/
structure HeadsAt (wb w : World) (p : Option Addr) (hs : List Pt) : Prop where
  line : LineAt wb w p hs
  some_ : ∀ x ∈ hs, (bareP x).k ≠ 0
theorem HeadsAt.below {wb w w' : World} {p : Option Addr} {l : List Pt} (h : HeadsAt wb w p l) (hb : Below w.heap.size w w') : HeadsAt wb w' p l := ⟨h.line.below hb, h.some_⟩
theorem PrtIn.cells {wb w : World} {b : Nat} {x : Pt} (h : PrtIn wb (some ⟨b, 0, none⟩) x) (hk : (bareP x).k ≠ 0) (hb : Below wb.heap.size wb w) : ∃ p cap, w.cell? ⟨b, 0, none⟩ = some (.int .i64 (bareP x).k) ∧ w.cell? ⟨b, 1, none⟩ = some (.int .i64 (hnum (bareP x))) ∧ w.cell? ⟨b, 2, none⟩ = some (.string (htxt (bareP x))) ∧ w.cell? ⟨b, 3, none⟩ = some (.int .i64 (bareP x).kids.length) ∧ w.cell? ⟨b, 4, none⟩ = some (.int .i64 (bareP x).o) ∧ w.cell? ⟨b, 5, none⟩ = some (.slice p (bareP x).kids.length cap) ∧ b < w.heap.size := by
  obtain ⟨b', p', cap', hbe, h6, _⟩ := h.open_ hk
  cases hbe
  obtain ⟨a0, a1, a2, a3, a4, a5⟩ := h6.block (hb.block b h6.lt)
  exact ⟨p', cap', a0, a1, a2, a3, a4, a5, Nat.lt_of_lt_of_le h6.lt hb.size⟩
theorem PrtIn.at_ {wb : World} {v : Option Addr} {x : Pt} (h : PrtIn wb v x) (hk : (bareP x).k ≠ 0) : ∃ b, v = some ⟨b, 0, none⟩ := by
  obtain ⟨b, _, _, h1, _⟩ := h.open_ hk
  exact ⟨b, h1⟩
section
set_option maxHeartbeats 8000000
set_option maxRecDepth 100000
/-- Has a part the head of the one in a box? -/
theorem sameHead_any (wb w : World) (b b2 B : Nat) (x y : Pt) (hw : Below wb.heap.size wb w) (hx : PrtIn wb (some ⟨b, 0, none⟩) x) (hxk : (bareP x).k ≠ 0) (hy : PrtIn wb (some ⟨b2, 0, none⟩) y) (hyk : (bareP y).k ≠ 0) (hB : w.cell? ⟨B, 0, none⟩ = some (.pointer (some ⟨b2, 0, none⟩))) :
    Calls Try.prog 44 #[.pointer (some ⟨b, 0, none⟩), .pointer (some ⟨B, 0, none⟩)] w fun e w' => e = .returned (.bool (Hd.eqb (hdOf x) (hdOf y))) ∧ Below w.heap.size w w' := by
  have hBl := World.block_lt_of_cell? _ _ hB
  have Hx : Hid (∀ wx, Below w.heap.size w wx → ∃ p cap, wx.cell? ⟨b, 0, none⟩ = some (.int .i64 (bareP x).k) ∧ wx.cell? ⟨b, 1, none⟩ = some (.int .i64 (hnum (bareP x))) ∧ wx.cell? ⟨b, 2, none⟩ = some (.string (htxt (bareP x))) ∧ wx.cell? ⟨b, 3, none⟩ = some (.int .i64 (bareP x).kids.length) ∧ wx.cell? ⟨b, 4, none⟩ = some (.int .i64 (bareP x).o) ∧ wx.cell? ⟨b, 5, none⟩ = some (.slice p (bareP x).kids.length cap) ∧ b < wx.heap.size) := fun wx h => hx.cells hxk (hw.trans (h.mono hw.size))
  have Hy : Hid (∀ wx, Below w.heap.size w wx → ∃ p cap, wx.cell? ⟨b2, 0, none⟩ = some (.int .i64 (bareP y).k) ∧ wx.cell? ⟨b2, 1, none⟩ = some (.int .i64 (hnum (bareP y))) ∧ wx.cell? ⟨b2, 2, none⟩ = some (.string (htxt (bareP y))) ∧ wx.cell? ⟨b2, 3, none⟩ = some (.int .i64 (bareP y).kids.length) ∧ wx.cell? ⟨b2, 4, none⟩ = some (.int .i64 (bareP y).o) ∧ wx.cell? ⟨b2, 5, none⟩ = some (.slice p (bareP y).kids.length cap) ∧ b2 < wx.heap.size) := fun wx h => hy.cells hyk (hw.trans (h.mono hw.size))
  have HB : Hid (∀ wx, Below w.heap.size w wx → wx.cell? ⟨B, 0, none⟩ = some (.pointer (some ⟨b2, 0, none⟩)) ∧ B < wx.heap.size) := fun wx h => ⟨(h.cell (p := ⟨B, 0, none⟩) hBl).trans hB, Nat.lt_of_lt_of_le hBl h.size⟩
  obtain ⟨E, hE⟩ : ∃ E, Hd.eqb (hdOf x) (hdOf y) = E := ⟨_, rfl⟩
  rw [hE]
  unfold hdOf at hE
  have HE : Hid (Hd.eqb ⟨(bareP x).k, hnum (bareP x), htxt (bareP x), (bareP x).kids.length⟩ ⟨(bareP y).k, hnum (bareP y), htxt (bareP y), (bareP y).kids.length⟩ = E) := hE
  clear hE hx hy hw hB hxk hyk hBl
  have hCd : Below w.heap.size w w.drew := (Below.refl _ _).drew
  go_enter Try.func44, Try.ntmps44
  go_wp2_with fail
  refine region_any (C := fun wx => Below w.heap.size w wx) (by kernel_rfl) ?_
  refine anyIn_read (i := 0) rfl (by kernel_rfl) (by kernel_rfl) (by kernel_rfl) (fun _ _ _ _ h => h) ?_
  apply Exists.intro
  refine ⟨Or.inl ⟨by rfl, fun wx hwx => ?_⟩, ?_⟩
  (go_simp; first | done | with_reducible rfl)
  refine anyIn_read (i := 1) rfl (by kernel_rfl) (by kernel_rfl) (by kernel_rfl) (fun _ _ _ _ h => h) ?_
  apply Exists.intro
  refine ⟨Or.inl ⟨by rfl, fun wx hwx => ?_⟩, ?_⟩
  (obtain ⟨p0, c0, f0, f1, f2, f3, f4, f5, f6⟩ := Hx.out wx hwx; go_simp; first | done | with_reducible rfl)
  refine anyIn_read (i := 2) rfl (by kernel_rfl) (by kernel_rfl) (by kernel_rfl) (fun _ _ _ _ h => h) ?_
  apply Exists.intro
  refine ⟨Or.inl ⟨by rfl, fun wx hwx => ?_⟩, ?_⟩
  (obtain ⟨p0, c0, f0, f1, f2, f3, f4, f5, f6⟩ := Hx.out wx hwx; go_simp; first | done | with_reducible rfl)
  refine anyIn_read (i := 3) rfl (by kernel_rfl) (by kernel_rfl) (by kernel_rfl) (fun _ _ _ _ h => h) ?_
  apply Exists.intro
  refine ⟨Or.inl ⟨by rfl, fun wx hwx => ?_⟩, ?_⟩
  (obtain ⟨p0, c0, f0, f1, f2, f3, f4, f5, f6⟩ := Hx.out wx hwx; go_simp; first | done | with_reducible rfl)
  refine anyIn_read (i := 4) rfl (by kernel_rfl) (by kernel_rfl) (by kernel_rfl) (fun _ _ _ _ h => h) ?_
  apply Exists.intro
  refine ⟨Or.inl ⟨by rfl, fun wx hwx => ?_⟩, ?_⟩
  (obtain ⟨f0, f1⟩ := HB.out wx hwx; go_simp; first | done | with_reducible rfl)
  refine anyIn_read (i := 5) rfl (by kernel_rfl) (by kernel_rfl) (by kernel_rfl) (fun _ _ _ _ h => h) ?_
  apply Exists.intro
  refine ⟨Or.inl ⟨by rfl, fun wx hwx => ?_⟩, ?_⟩
  (obtain ⟨p0, c0, f0, f1, f2, f3, f4, f5, f6⟩ := Hy.out wx hwx; go_simp; first | done | with_reducible rfl)
  refine anyIn_read (i := 6) rfl (by kernel_rfl) (by kernel_rfl) (by kernel_rfl) (fun _ _ _ _ h => h) ?_
  apply Exists.intro
  refine ⟨Or.inl ⟨by rfl, fun wx hwx => ?_⟩, ?_⟩
  (obtain ⟨p0, c0, f0, f1, f2, f3, f4, f5, f6⟩ := Hy.out wx hwx; go_simp; first | done | with_reducible rfl)
  refine anyIn_read (i := 7) rfl (by kernel_rfl) (by kernel_rfl) (by kernel_rfl) (fun _ _ _ _ h => h) ?_
  apply Exists.intro
  refine ⟨Or.inl ⟨by rfl, fun wx hwx => ?_⟩, ?_⟩
  (obtain ⟨p0, c0, f0, f1, f2, f3, f4, f5, f6⟩ := Hy.out wx hwx; go_simp; first | done | with_reducible rfl)
  refine anyIn_read (i := 8) rfl (by kernel_rfl) (by kernel_rfl) (by kernel_rfl) (fun _ _ _ _ h => h) ?_
  apply Exists.intro
  refine ⟨Or.inl ⟨by rfl, fun wx hwx => ?_⟩, ?_⟩
  exact exec_eq59 rfl rfl rfl HE.out wx
  refine anyIn_read (i := 9) rfl (by kernel_rfl) (by kernel_rfl) (by kernel_rfl) (fun _ _ _ _ h => h) ?_
  apply Exists.intro
  refine ⟨Or.inl ⟨by rfl, fun wx hwx => ?_⟩, ?_⟩
  (go_simp; first | done | with_reducible rfl)
  refine anyIn_done hCd (by kernel_rfl) ?_
  go_simp
  clear Hx Hy HB HE
  go_wp2
  go_ret
  exact ⟨rfl, hCd⟩
end
end Go.Proofs.Ytjhfomfaddfklaa
