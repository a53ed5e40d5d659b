/-
  The program's heap: a thing is moved (move.thing), in words.
-/
import Derived.Test.YtfeopoamednidaaP4
import Derived.Lib.SlBuf
namespace Go.Proofs.Ytfeopoamednidaa
open Go.RowKit Go.Deep Go.IntWalk
/-- The last words of a row of one's own are overwritten. -/
theorem run_copy_words {w : World} {g cap : Nat} {L Z xs : List Wd} (ho : OwnW w (.slice (some ⟨g, 0, none⟩) (L ++ Z).length cap) (L ++ Z)) (hx : xs.length = Z.length) {a : Addr} {dcap scap : Nat} (hsrc : ∀ j u, (wdV xs)[j]? = some u → w.cell? (a.add j) = some u) (ty : TypeId) :
    ∃ w', (Builtin.copy_ #[41, 41] ty #[.slice (some ⟨g, L.length * 5, none⟩) Z.length dcap, .slice (some a) Z.length scap]).run Try.prog w = .ok (goInt Z.length) w' ∧ OwnW w' (.slice (some ⟨g, 0, none⟩) (L ++ Z).length cap) (L ++ xs) ∧ w.grownBy w' (some g) := by
  obtain ⟨i0, hi0, hz0, hz1, hz2⟩ := info_parts infos79
  rcases ho.2 with ⟨e, _⟩ | ⟨g', cap', cur, e, hbg, hg, hnc, hcm, hcs, htake⟩
  · cases e
  · cases e
    have hl := run_firstCells_some (P := Try.prog) w 5 Z.length a Z.length scap (wdV xs) (by rw [wdV_len, hx]) hsrc
    have hlen : (L ++ Z).length = L.length + Z.length := by simp
    have hst := run_storeCells_at Try.prog g (L.length * 5) 79 (wdV xs) 0 cur w hg (by rw [wdV_len, hcs, hx]; omega) (wdV_one _)
    simp only [Nat.add_zero] at hst
    refine ⟨w.setRow g (cur.toList.take (L.length * 5) ++ wdV xs ++ cur.toList.drop (L.length * 5 + (wdV xs).length)).toArray, ?_, ⟨by rw [wdV_len], .inr ⟨g, cap, _, by simp [hx], hbg, setRow_heap w g cur _ 79 _ hg, by rw [List.length_append, hx, ← hlen]; exact hnc, hcm, ?_, ?_⟩⟩, ⟨rfl, rfl, rfl, by simp, fun j _ hj => setRow_other w g j _ (fun e => hj (by rw [e]))⟩⟩
    · simp [Builtin.copy_, run_underlying slice41, Builtin.lenOf, sizeOf, typeInfo, hi0, hz1, hl, hst]
    · simp only [List.size_toArray, List.length_append, List.length_take, List.length_drop, Array.length_toList, wdV_len]
      omega
    · have h1 : cur.toList.take (L.length * 5) = wdV L := by
        have := congrArg (List.take (L.length * 5)) htake
        rw [List.take_take, hlen, Nat.min_eq_left (by omega), wdV_app, List.take_append_of_le_length (by rw [wdV_len]; exact Nat.le_refl _)] at this
        rw [this, List.take_of_length_le (by rw [wdV_len]; exact Nat.le_refl _)]
      rw [h1, List.length_append, wdV_app]
      have e : (L.length + xs.length) * 5 = (wdV L ++ wdV xs).length := by simp [wdV_len]; omega
      rw [e]
      exact List.take_left
/-- Things are being moved: both heaps in memory. -/
structure MvM (w : World) (mb : Nat) (cells first tfirst : Int) (fv tv : Value) (fws tws : List Wd) : Prop where
  box : w.heap[mb]? = some (.cells #[.int .i64 cells, .int .i64 first, fv, .int .i64 cells, .int .i64 tfirst, tv] 70)
  fown : OwnW w fv fws
  town : OwnW w tv tws
  apart : ∀ k, fv.ownBlock = some k → tv.ownBlock ≠ some k
  flen : fws.length ≤ 1000000
  tlen : tws.length ≤ 1000000
  pos : 0 < first ∧ first ≤ 9000000000000000000
  tpos : 0 < tfirst ∧ tfirst ≤ 9000000000000000000
theorem MvM.kp {X : List Nat} {w w' : World} {mb : Nat} {cells first tfirst : Int} {fv tv : Value} {fws tws : List Wd} (h : MvM w mb cells first tfirst fv tv fws tws) (hk : Kp X w w') (h1 : mb ∉ X) (h2 : ∀ k, fv.ownBlock = some k → k ∉ X) (h3 : ∀ k, tv.ownBlock = some k → k ∉ X) : MvM w' mb cells first tfirst fv tv fws tws :=
  ⟨(hk.block mb (Array.getElem?_eq_some_iff.1 h.box).1 h1).trans h.box, h.fown.kp hk h2, h.town.kp hk h3, h.apart, h.flen, h.tlen, h.pos, h.tpos⟩
/-- A thing was moved. -/
inductive MvPost (w : World) (mb : Nat) (cells first tfirst : Int) (fv tv : Value) (fws tws : List Wd) (j : Nat) (x : Wd) : Ending → World → Prop
  | old (h : x.moved ≠ 0) (w' : World) (hw : Below w.heap.size w w') : MvPost w mb cells first tfirst fv tv fws tws j x (.returned (.int .i64 (tfirst + x.moved - 1))) w'
  | new (h : x.moved = 0) (tv' : Value) (w' : World) (hm : MvM w' mb cells first tfirst fv tv' (fws.set j { x with moved := tws.length + 1 }) (tws ++ (fws.drop j).take (x.n.toNat + 1)))
      (hk : Kp ([mb] ++ fv.ownBlock.toList ++ tv.ownBlock.toList) w w') (hf : tv'.ownBlock = tv.ownBlock ∨ ∃ g, tv'.ownBlock = some g ∧ w.heap.size ≤ g) : MvPost w mb cells first tfirst fv tv fws tws j x (.returned (.int .i64 (tfirst + tws.length))) w'
theorem MvM.hp {w : World} {mb : Nat} {cells first tfirst : Int} {fv tv : Value} {fws tws : List Wd} (h : MvM w mb cells first tfirst fv tv fws tws) : ∃ p cap, fv = .slice p fws.length cap ∧ HpAt w mb 0 cells first p cap fws ∧ (∀ a, p = some a → a = ⟨a.block, 0, none⟩ ∧ fv.ownBlock = some a.block) := by
  obtain ⟨p, cap, rfl, hc, hr, _, ha⟩ := h.fown.at h.flen
  have hb' := h.box
  exact ⟨p, cap, rfl, ⟨by simp only [World.cell?, hb']; rfl, by simp only [World.cell?, hb']; rfl, by simp only [World.cell?, hb']; rfl, hr, h.pos, hc⟩, ha⟩
theorem Hd.words {ws : List Wd} {j : Nat} {x : Wd} (hx : Hd ws j x) : ((ws.drop j).take (x.n.toNat + 1)).length = x.n.toNat + 1 := by
  rw [List.length_take, List.length_drop]
  have := hx.fits
  omega
section
set_option maxHeartbeats 8000000
set_option maxRecDepth 100000
theorem eql41 (a : Addr) (n c : Nat) (w : World) : (binOp .eql 41 (.slice (some a) n c) (.slice none 0 0)).run Try.prog w = .ok (.bool false) w := by kernel_rfl
theorem mthing_old (w : World) (mb : Nat) (cells first tfirst : Int) (fv tv : Value) (fws tws : List Wd) (h : MvM w mb cells first tfirst fv tv fws tws) (j : Nat) (x : Wd) (hx : Hd fws j x) (hm : x.moved ≠ 0) (hml : 0 ≤ x.moved ∧ x.moved ≤ 1000001) :
    Calls Try.prog 31 #[.pointer (some ⟨mb, 0, none⟩), .int .i64 (first + j)] w fun e w' => MvPost w mb cells first tfirst fv tv fws tws j x e w' := by
  obtain ⟨p, cap, rfl, hA, ha⟩ := h.hp
  obtain ⟨b, hp, hwd, hbl⟩ := hA.row.at_ hx.get
  subst hp
  have Hcall : Hid _ := thing_any w mb 0 cells first _ cap fws hA j x hx
  have hbox := h.box
  have htp := h.tpos
  have Hall : Hid (∀ wx, Below w.heap.size w wx → (wx.cell? ⟨b, j * 5 + 1, none⟩ = some (.int .i32 x.moved) ∧ b < wx.heap.size) ∧ wx.cell? ⟨mb, 4, none⟩ = some (.int .i64 tfirst) ∧ mb < wx.heap.size) := fun wx hk => by
    obtain ⟨g0, g1, g2, g3, g4⟩ := hwd
    simp only [Nat.zero_add] at g1
    have hmb := (Array.getElem?_eq_some_iff.1 hbox).1
    have hb2 : wx.heap[mb]? = _ := (hk.block mb hmb).trans hbox
    exact ⟨⟨(hk.cell (p := ⟨b, j * 5 + 1, none⟩) hbl).trans g1, Nat.lt_of_lt_of_le hbl hk.size⟩, by simp only [World.cell?, hb2]; rfl, Nat.lt_of_lt_of_le hmb hk.size⟩
  have hq : Hid (∀ w', Below w.heap.size w w' → MvPost w mb cells first tfirst (.slice (some ⟨b, 0, none⟩) fws.length cap) tv fws tws j x (.returned (.int .i64 (tfirst + x.moved - 1))) w') := fun w' hw => MvPost.old hm w' hw
  obtain ⟨xn, xm, xt, xk, xp⟩ := x
  simp only at hm hml hq Hall ⊢
  have hw1 : IntKind.i64.wrap xm = xm := by rw [IntKind.wrap_i64]; omega
  have hw2 : wrap64 (tfirst + xm) = tfirst + xm := wrap64_in _ (by omega)
  have hw3 : wrap64 (tfirst + xm - 1) = tfirst + xm - 1 := wrap64_in _ (by omega)
  have hnil := eql41
  have hm0 : (xm == 0) = false := by simpa using hm
  clear h hA ha hwd hx hbox
  go_enter Try.func31, Try.ntmps31
  go_wp2_with fail
  refine Calls.mono Hcall.out ?_
  rintro e w2 ⟨⟨b', hp, rfl⟩, hb2⟩
  cases hp
  obtain ⟨⟨f0, f1⟩, f2, f3⟩ := Hall.out w2 hb2
  have Q : Hid (∀ n, Below w.heap.size w (w2.drewN n)) := fun n => hb2.trans (((Kp.refl [] w2).drewN n).below hb2.size (by simp))
  clear Hcall Hall hb2
  go_wp2_with fail
  go_quiet (fail)
  go_wp2
  exact bodyPost_ret (by simp [results, Try.results31, go_sem]) rfl (hq.out _ (Q.out _))
theorem set6m {w : World} {b : Nat} {a0 a1 a2 a3 a4 a5 : Value} {ty : TypeId} (h : w.heap[b]? = some (.cells #[a0, a1, a2, a3, a4, a5] ty)) (v5 : Value) : (w.setCell ⟨b, 5, none⟩ v5).heap[b]? = some (.cells #[a0, a1, a2, a3, a4, v5] ty) := by
  simp [World.setCell, Array.getElem?_modify, h]
theorem wr32 (n : Nat) (h : n ≤ 1000000) : wrap32 (n : Int) = n := wrap32_in _ (by omega)
theorem wr32s (n : Nat) (h : n ≤ 1000000) : wrap32 ((n : Int) + 1) = (n : Int) + 1 := wrap32_in _ (by omega)
theorem wr64s (n : Nat) (h : n ≤ 1000000) : wrap64 ((n : Int) + 1) = (n : Int) + 1 := wrap64_in _ (by omega)
theorem wr64t (t : Int) (ht : 0 < t ∧ t ≤ 9000000000000000000) (n : Nat) (h : n ≤ 1000000) : wrap64 (t + ((n : Int) + 1)) = t + ((n : Int) + 1) := wrap64_in _ (by omega)
theorem wr64u (t : Int) (ht : 0 < t ∧ t ≤ 9000000000000000000) (n : Nat) (h : n ≤ 1000000) : wrap64 (t + ((n : Int) + 1) - 1) = t + n := by rw [wrap64_in _ (by omega)]; omega
theorem conv21 (n : Nat) (h : n ≤ 1000000) (w : World) : (convert 3 21 (.int .i64 n)).run Try.prog w = .ok (.int .i32 n) w := by
  have : (convert 3 21 (.int .i64 n)).run Try.prog w = .ok (.int .i32 (IntKind.i32.wrap n)) w := by kernel_rfl
  rw [this, i32_in _ (by omega)]
theorem add21 (n : Nat) (h : n ≤ 1000000) (w : World) : (binOp .add 21 (.int .i32 n) (.int .i32 1)).run Try.prog w = .ok (.int .i32 ((n : Int) + 1)) w := by
  have : (binOp .add 21 (.int .i32 n) (.int .i32 1)).run Try.prog w = .ok (.int .i32 (IntKind.i32.wrap ((n : Int) + 1))) w := by kernel_rfl
  rw [this, i32_in _ (by omega)]
theorem mthing_new (w : World) (mb : Nat) (cells first tfirst : Int) (fv tv : Value) (fws tws : List Wd) (h : MvM w mb cells first tfirst fv tv fws tws) (j : Nat) (x : Wd) (hx : Hd fws j x) (hm : x.moved = 0) (hl : tws.length + x.n.toNat + 1 ≤ 1000000) :
    Calls Try.prog 31 #[.pointer (some ⟨mb, 0, none⟩), .int .i64 (first + j)] w fun e w' => MvPost w mb cells first tfirst fv tv fws tws j x e w' := by
  obtain ⟨p, cap, rfl, hA, ha⟩ := h.hp
  obtain ⟨b, hp, hwd, hbl⟩ := hA.row.at_ hx.get
  subst hp
  have hob : Value.ownBlock (.slice (some ⟨b, 0, none⟩) fws.length cap) = some b := rfl
  have Hcall : Hid _ := thing_any w mb 0 cells first _ cap fws hA j x hx
  have H : Hid (MvM w mb cells first tfirst (.slice (some ⟨b, 0, none⟩) fws.length cap) tv fws tws) := h
  have Hx : Hid (Hd fws j x) := hx
  obtain ⟨q, qc, rfl, hqc, _, _, hqa⟩ := h.town.at h.tlen
  have Hall : Hid (∀ wx, Below w.heap.size w wx → (wx.cell? ⟨b, j * 5 + 1, none⟩ = some (.int .i32 0) ∧ b < wx.heap.size) ∧ wx.cell? ⟨mb, 5, none⟩ = some (.slice q tws.length qc) ∧ mb < wx.heap.size) := fun wx hk => by
    obtain ⟨g0, g1, g2, g3, g4⟩ := hwd
    simp only [Nat.zero_add] at g1
    have hbox := h.box
    have hmb := (Array.getElem?_eq_some_iff.1 hbox).1
    have hb2 : wx.heap[mb]? = _ := (hk.block mb hmb).trans hbox
    rw [hm] at g1
    exact ⟨⟨(hk.cell (p := ⟨b, j * 5 + 1, none⟩) hbl).trans g1, Nat.lt_of_lt_of_le hbl hk.size⟩, by simp only [World.cell?, hb2]; rfl, Nat.lt_of_lt_of_le hmb hk.size⟩
  obtain ⟨xn, xm, xt, xk, xp⟩ := x
  have hn := hx.n
  simp only at hm hl hn Hall Hcall ⊢
  subst hm
  obtain ⟨m, rfl⟩ : ∃ m : Nat, xn = m := ⟨xn.toNat, by omega⟩
  simp only [Int.toNat_natCast] at hl Hcall
  have hnil := eql41
  clear h hA ha hwd hx hqa
  go_enter Try.func31, Try.ntmps31
  go_wp2_with fail
  refine Calls.mono Hcall.out ?_
  rintro e w2 ⟨⟨b', hp, rfl⟩, hb2⟩
  cases hp
  obtain ⟨⟨f0, f1⟩, f2, f3⟩ := Hall.out w2 hb2
  have H2 : Hid (MvM w2 mb cells first tfirst (.slice (some ⟨b, 0, none⟩) fws.length cap) (.slice q tws.length qc) fws tws) := H.out.kp (Kp.of_below (X := []) hb2) (by simp) (by simp) (by simp)
  have HB : Hid (Below w.heap.size w w2) := hb2
  have Htake : Hid _ := take_any w2 mb 3 _ tws f2 (by simp [World.frozen?, H2.out.box]) (H2.out.town.ne H2.out.box (by decide)) H2.out.town (m + 1) (by omega) H2.out.tlen (by omega)
  clear Hcall Hall hb2
  go_wp2_with fail
  refine Calls.mono Htake.out ?_
  rintro e w4 ⟨g, gc, w3, ho3, hg3, hat, hgc⟩
  simp only [show (3 : Nat) + 2 = 5 by rfl]
  have hs2 := HB.out.size
  have hmb2 := f3
  have hbox3 : w3.heap[mb]? = _ := (hg3.block mb f3 (fun e => H2.out.town.ne H2.out.box (by decide) e.symm)).trans H2.out.box
  have hbox4 := set6m hbox3 (.slice (some ⟨g, 0, none⟩) (tws.length + (m + 1)) gc)
  have hgm : g ≠ mb := fun e => by
    rcases hat with hat | hat
    · exact H2.out.town.ne H2.out.box (by decide) (e ▸ hat)
    · omega
  have hbm : b ≠ mb := fun e => H2.out.fown.ne H2.out.box (by decide) (e ▸ hob)
  have hgb : g ≠ b := fun e => by
    rcases hat with hat | hat
    · exact H2.out.apart b hob (e ▸ hat)
    · omega
  have hk4 : Kp [mb] w3 (w3.setCell ⟨mb, 5, none⟩ (.slice (some ⟨g, 0, none⟩) (tws.length + (m + 1)) gc)) := Kp.setCell _ _ (by simp) _
  have hown4 := ho3.kp hk4 (by intro k hk; cases hk; simpa using hgm)
  have hk3 : Kp (Value.ownBlock (.slice q tws.length qc)).toList w2 w3 := Kp.of_grown hg3 (by intro k hk; rw [hk]; simp)
  have hf3 : OwnW w3 (.slice (some ⟨b, 0, none⟩) fws.length cap) fws := H2.out.fown.kp hk3 (by intro k hk; cases hk; intro hh; exact H2.out.apart b hob (by simpa using hh))
  have hf4 := hf3.kp hk4 (by intro k hk; cases hk; simpa using hbm)
  have hxl : ((fws.drop j).take (m + 1)).length = (List.replicate (m + 1) zw).length := by
    rw [List.length_replicate]
    exact Hx.out.words
  have hcpy := run_copy_words (xs := (fws.drop j).take (m + 1)) (L := tws) (Z := List.replicate (m + 1) zw) (g := g) (cap := gc) (a := ⟨b, j * 5, none⟩) (dcap := gc - tws.length) (scap := cap - j) (by simpa using hown4) hxl (fun i u hu => by
    have h1 : i < (m + 1) * 5 := by
      have := (List.getElem?_eq_some_iff.1 hu).1
      rw [wdV_len, hxl, List.length_replicate] at this
      exact this
    have hfit := Hx.out.fits
    simp only [Int.toNat_natCast] at hfit
    have h2 : (wdV fws)[j * 5 + i]? = some u := by
      have e : wdV fws = wdV (fws.take j) ++ (wdV ((fws.drop j).take (m + 1)) ++ wdV ((fws.drop j).drop (m + 1))) := by rw [← wdV_app, List.take_append_drop, ← wdV_app, List.take_append_drop]
      have hl0 : (wdV (fws.take j)).length = j * 5 := by rw [wdV_len, List.length_take]; omega
      rw [e, List.getElem?_append_right (by omega), hl0, Nat.add_sub_cancel_left, List.getElem?_append_left (by rw [wdV_len, hxl, List.length_replicate]; exact h1)]
      exact hu
    have h3 := World.ownsRow.cells (g := b) hf4 rfl (j * 5 + i) u h2
    rw [add_at] at h3 ⊢
    simpa using h3) 3
  simp only [List.length_append, List.length_replicate] at hcpy
  generalize hw4e : w3.setCell ⟨mb, 5, none⟩ (.slice (some ⟨g, 0, none⟩) (tws.length + (m + 1)) gc) = w4 at *
  obtain ⟨w5, hrun5, hown5, hg5⟩ := hcpy
  have hk5 : Kp [g] w4 w5 := Kp.of_grown hg5 (by intro k hk; cases hk; simp)
  have hf5 := hf4.kp hk5 (by intro k hk; cases hk; simpa using fun e : b = g => hgb e.symm)
  have hbox5 := (hk5.block mb (Array.getElem?_eq_some_iff.1 hbox4).1 (by simpa using fun e : mb = g => hgm e.symm)).trans hbox4
  have hjl := Hx.out.lt
  obtain ⟨q6, c6, hv6, -, hr6, -, -⟩ := hf5.at H2.out.flen
  cases hv6
  obtain ⟨b6, hp6, ⟨-, k1, -, -, -⟩, k5⟩ := hr6.at_ Hx.out.get
  cases hp6
  simp only [Nat.zero_add] at k1
  have kf : w5.frozen? ⟨b, j * 5 + 1, none⟩ = false := ownsRow_frozen hf5 rfl _
  have hf6 : OwnW (w5.setCell ⟨b, j * 5 + 1, none⟩ (.int .i32 ((tws.length : Int) + 1))) (.slice (some ⟨b, 0, none⟩) fws.length cap) (fws.set j ⟨m, (tws.length : Int) + 1, xt, xk, xp⟩) := by
    have h1 := ownsRow_set hf5 (g := b) rfl (j * 5 + 1) (.int .i32 ((tws.length : Int) + 1))
    have he : fws[j]'hjl = ⟨m, 0, xt, xk, xp⟩ := by
      have := Hx.out.get
      rw [List.getElem?_eq_getElem hjl] at this
      exact Option.some.inj this
    have h2 := wdV_set0 fws j hjl ((tws.length : Int) + 1)
    rw [he] at h2
    unfold OwnW
    rw [← h2, List.length_set]
    exact h1
  have hk6 : Kp [b] w5 (w5.setCell ⟨b, j * 5 + 1, none⟩ (.int .i32 ((tws.length : Int) + 1))) := Kp.setCell _ _ (by simp) _
  have ht6 := hown5.kp hk6 (by intro k hk; cases hk; simpa using hgb)
  have hbox6 := (hk6.block mb (Array.getElem?_eq_some_iff.1 hbox5).1 (by simpa using fun e : mb = b => hbm e.symm)).trans hbox5
  have hc6 : (w5.setCell ⟨b, j * 5 + 1, none⟩ (.int .i32 ((tws.length : Int) + 1))).cell? ⟨b, j * 5 + 1, none⟩ = some (.int .i32 ((tws.length : Int) + 1)) := World.cell?_setCell_same' _ _ _ (by rw [k1]; rfl)
  have hb6 : b < (w5.setCell ⟨b, j * 5 + 1, none⟩ (.int .i32 ((tws.length : Int) + 1))).heap.size := by simpa [World.setCell] using k5
  have hmf : (w5.setCell ⟨b, j * 5 + 1, none⟩ (.int .i32 ((tws.length : Int) + 1))).cell? ⟨mb, 4, none⟩ = some (.int .i64 tfirst) := by simp only [World.cell?, hbox6]; rfl
  have hm6 := (Array.getElem?_eq_some_iff.1 hbox6).1
  have hKall : Kp ([mb] ++ (Value.ownBlock (.slice (some ⟨b, 0, none⟩) fws.length cap)).toList ++ (Value.ownBlock (.slice q tws.length qc)).toList) w (w5.setCell ⟨b, j * 5 + 1, none⟩ (.int .i32 ((tws.length : Int) + 1))) := by
    refine (((((Kp.of_below HB.out).then hk3 (fun y hy => Or.inl (by simp at hy ⊢; exact Or.inr (Or.inr hy)))).then hk4 (by simp)).then hk5 ?_).then hk6 (fun y hy => Or.inl (by simp at hy ⊢; exact Or.inr (Or.inl (by rw [hy]; rfl)))))
    intro y hy
    simp at hy
    subst hy
    rcases hat with hat | hat
    · exact Or.inl (by simp [hat])
    · exact Or.inr (by omega)
  have hM6 : MvM (w5.setCell ⟨b, j * 5 + 1, none⟩ (.int .i32 ((tws.length : Int) + 1))) mb cells first tfirst (.slice (some ⟨b, 0, none⟩) fws.length cap) (.slice (some ⟨g, 0, none⟩) (tws.length + (m + 1)) gc) (fws.set j ⟨m, (tws.length : Int) + 1, xt, xk, xp⟩) (tws ++ (fws.drop j).take (m + 1)) :=
    ⟨hbox6, hf6, ht6, (by intro k hk; cases hk; simpa [Value.ownBlock] using hgb), by rw [List.length_set]; exact H2.out.flen, by rw [List.length_append, hxl, List.length_replicate]; omega, H2.out.pos, H2.out.tpos⟩
  have hQ : Hid (∀ n, MvPost w mb cells first tfirst (.slice (some ⟨b, 0, none⟩) fws.length cap) (.slice q tws.length qc) fws tws j ⟨m, 0, xt, xk, xp⟩ (.returned (.int .i64 (tfirst + tws.length))) ((w5.setCell ⟨b, j * 5 + 1, none⟩ (.int .i32 ((tws.length : Int) + 1))).drewN n)) := fun n =>
    MvPost.new rfl _ _ (hM6.kp ((Kp.refl [] _).drewN n) (by simp) (by simp) (by simp)) (hKall.drewN n) (by
      rcases hat with hat | hat
      · exact Or.inl (by rw [hat]; rfl)
      · exact Or.inr ⟨g, rfl, by omega⟩)
  have htl := H2.out.tlen
  have htp := H2.out.tpos
  have v1 := wr32 tws.length htl
  have v2 := wr32s tws.length htl
  have v3 := wr64s tws.length htl
  have v4 := wr64t tfirst htp tws.length htl
  have v5 := wr64u tfirst htp tws.length htl
  clear hKall hM6 hk6 ht6 hbox6 hf6 hr6 hf5 hbox5 hk5 hown5 hg5 hf4 hf3 hk3 hown4 hk4 hbox4 hbox3 H2 H Hx Htake ho3 hg3 hw4e HB hxl f0 f2
  have Hc6 : Hid _ := hc6
  have Hmf : Hid _ := hmf
  have Hb6 : Hid (b < _) := hb6
  have Hm6 : Hid (mb < _) := hm6
  have Htl : Hid (tws.length ≤ 1000000) := htl
  have Htp : Hid (0 < tfirst ∧ tfirst ≤ 9000000000000000000) := htp
  clear hc6 hb6 hmf hm6 v1 v2 v3 v4 v5 hat hgc hs2 hmb2 hgm hbm hgb htl htp hnil
  go_upto_region 7 with (at_builtin; refine Lib.wpList_copy_run _ rfl _ _ _ _ rfl _ _ rfl rfl hrun5 ?_)
  clear hrun5
  have v1 := conv21 tws.length Htl.out
  have v2 := add21 tws.length Htl.out
  go_upto_region 8 with fail
  generalize w5.setCell ⟨b, j * 5 + 1, none⟩ (.int .i32 ((tws.length : Int) + 1)) = w6 at *
  clear v1 v2 k1 kf k5
  have v3 := wr64s tws.length Htl.out
  have v4 := wr64t tfirst Htp.out tws.length Htl.out
  have v5 := wr64u tfirst Htp.out tws.length Htl.out
  have c0 := Hc6.out
  have c1 := Hmf.out
  have c2 := Hb6.out
  have c3 := Hm6.out
  go_quiet (fail)
  go_wp2
  exact bodyPost_ret (by simp [results, Try.results31, go_sem]; exact v5) rfl (hQ.out _)
end
end Go.Proofs.Ytfeopoamednidaa
