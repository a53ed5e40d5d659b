/-
  The layer heap: which of n things (pick); one thing more (Add).
-/
import Derived.Test.YtfeopoamednidaaH3
namespace Go.Proofs.Ytfeopoamednidaa
open Go.RowKit Go.Deep
def pickN (c : Int) (n : Nat) : Nat := (if c < 0 then -(c + 1) else c).toNat % n
theorem pickN_lt (c : Int) {n : Nat} (h : 0 < n) : pickN c n < n := Nat.mod_lt _ h
theorem wf_i64 {x : Int} (h : (Lit.int .i64 x).wf = true) : -9223372036854775808 ≤ x ∧ x ≤ 9223372036854775807 := by
  have h1 : IntKind.i64.min = -9223372036854775808 := by decide
  have h2 : IntKind.i64.max = 9223372036854775807 := by decide
  simp [Lit.wf, h1, h2] at h
  omega
theorem i64_wf {x : Int} (h : -9223372036854775808 ≤ x ∧ x ≤ 9223372036854775807) : (Lit.int .i64 x).wf = true := by
  have h1 : IntKind.i64.min = -9223372036854775808 := by decide
  have h2 : IntKind.i64.max = 9223372036854775807 := by decide
  simp [Lit.wf, h1, h2]
  omega
theorem tmod_nat (m n : Nat) : ((m : Int)).tmod (n : Int) = ((m % n : Nat) : Int) := by
  rw [Int.tmod_eq_emod_of_nonneg (by omega)]
  rfl
/-- The box and the map of the document's heap. -/
theorem DocAt.cells {w wx : World} {hb mb : Nat} {size next : Int} {D : Doc} {q : Int → Option Addr} {ks : List Int} (h : DocAt w hb size next D (some mb) q ks) (hx : Kp [mb] w wx) :
    wx.cell? ⟨hb, 1, none⟩ = some (.map (some mb)) ∧ wx.cell? ⟨hb, 2, none⟩ = some (.int .i64 next) ∧ hb < wx.heap.size := by
  have hbx := h.box
  have hlt : hb < w.heap.size := (Array.getElem?_eq_some_iff.1 hbx).1
  obtain ⟨_, he, hm⟩ : ∃ m, some mb = some m ∧ MapAt w m ks.length (fun b => (D b).map (thV (q b))) := by
    rcases h.map with ⟨h, _⟩ | h
    · cases h
    · exact h
  cases he
  have h1 : w.cell? ⟨hb, 1, none⟩ = some (.map (some mb)) := by simp [World.cell?, hbx]
  have h2 : w.cell? ⟨hb, 2, none⟩ = some (.int .i64 next) := by simp [World.cell?, hbx]
  have hne : hb ≠ mb := hm.ne h1
  exact ⟨hx.cell h1 (by simpa using hne), hx.cell h2 (by simpa using hne), Nat.lt_of_lt_of_le hlt hx.size⟩
inductive AddPost (w : World) (hb : Nat) (size next : Int) (D : Doc) (mp : Option Nat) (q : Int → Option Addr) (ks : List Int) (kind tag : Int) (p : Option Addr) (l : List Cl) (e : Ending) (w' : World) : Prop
  | mk (mb : Nat) (he : e = .returned (.int .i64 next)) (hmb : mp = some mb ∨ mp = none ∧ w.heap.size ≤ mb) (hd : DocAt w' hb size (next + 1) (upd D next (some ⟨kind, tag, l⟩)) (some mb) (upd q next p) (ks ++ [next])) (hk : Kp [hb, mb] w w') : AddPost w hb size next D mp q ks kind tag p l e w'
/-- One thing more was stored, the count is as it was. -/
structure AddMid (w0 : World) (hb mb : Nat) (size next : Int) (D : Doc) (q : Int → Option Addr) (ks : List Int) (kind tag : Int) (p : Option Addr) (l : List Cl) (w1 : World) : Prop where
  kp : Kp [mb] w0 w1
  doc : DocAt w1 hb size next (upd D next (some ⟨kind, tag, l⟩)) (some mb) (upd q next p) (ks ++ [next])
theorem setCell2 {w : World} {b : Nat} {x y z u : Value} {t : TypeId} (h : w.heap[b]? = some (.cells #[x, y, z] t)) : (w.setCell ⟨b, 2, none⟩ u).heap[b]? = some (.cells #[x, y, u] t) := by
  simp [World.setCell, Array.getElem?_modify, h]
theorem setCell1 {w : World} {b : Nat} {x y z u : Value} {t : TypeId} (h : w.heap[b]? = some (.cells #[x, y, z] t)) : (w.setCell ⟨b, 1, none⟩ u).heap[b]? = some (.cells #[x, u, z] t) := by
  simp [World.setCell, Array.getElem?_modify, h]
theorem AddMid.post {w w0 w1 : World} {hb mb : Nat} {size next : Int} {D : Doc} {q : Int → Option Addr} {ks : List Int} {kind tag : Int} {p : Option Addr} {l : List Cl} {mp : Option Nat} (h : AddMid w0 hb mb size next D q ks kind tag p l w1) (hk : Kp [hb] w w0 ∧ (mp = some mb ∨ mp = none ∧ w.heap.size ≤ mb)) :
    AddPost w hb size next D mp q ks kind tag p l (.returned (.int .i64 next)) (w1.setCell ⟨hb, 2, none⟩ (.int .i64 (next + 1))) := by
  have hset : Kp [hb] w1 (w1.setCell ⟨hb, 2, none⟩ (.int .i64 (next + 1))) := Kp.setCell w1 _ (by simp) _
  have hd := h.doc
  have hbx := hd.box
  refine AddPost.mk mb rfl hk.2 ⟨setCell2 hbx, Or.inr ⟨mb, rfl, ?_⟩, hd.nd, hd.keys, fun b t hb' => ?_⟩ ?_
  · rcases hd.map with ⟨hc, _⟩ | ⟨m, hm, hM⟩
    · cases hc
    · cases hm
      have h1 : w1.cell? ⟨hb, 1, none⟩ = some (.map (some mb)) := by simp [World.cell?, hbx]
      exact hM.kp hset (by simpa using (hM.ne h1).symm)
  · obtain ⟨h1, h2, h3⟩ := hd.rows b t hb'
    exact ⟨h1.block (fun hl a ha => hset.block _ (h1.lt hl a ha) (by simpa using h1.ne_box hl hbx a ha)), h2, h3⟩
  · exact Kp.trans (Kp.trans (hk.1.mono (by simp)) (h.kp.mono (by simp))) (hset.mono (by simp))
theorem add_step {w0 : World} {hb mb : Nat} {size next : Int} {D : Doc} {q : Int → Option Addr} {ks : List Int} (hD : DocAt w0 hb size next D (some mb) q ks) (hfr : D next = none) (kind tag : Int) (p : Option Addr) (l : List Cl) (hks : ks.length < maxLen) (hwf : (Lit.int .i64 next).wf = true) (hr : RowC w0 p l) (hz : p = none → l.length = 0 ∧ l.length = 0) (hwl : ∀ c ∈ l, wfC c) :
    ∃ w1, (Instr.mapUpdate 29 (.map (some mb)) (.int .i64 next) (.agg #[.int .i64 kind, .int .i64 tag, .slice p l.length l.length])).run Try.prog w0.drew = .ok () w1 ∧ Hid (Kp [mb] w0 w1 ∧ w1.frozen? ⟨hb, 2, none⟩ = false ∧ AddMid w0 hb mb size next D q ks kind tag p l w1) := by
  obtain ⟨_, he, hm⟩ : ∃ m, some mb = some m ∧ MapAt w0 m ks.length (fun b => (D b).map (thV (q b))) := by
    rcases hD.map with ⟨h, _⟩ | h
    · cases h
    · exact h
  cases he
  have hbx := hD.box
  have hc1 : w0.cell? ⟨hb, 1, none⟩ = some (.map (some mb)) := by simp [World.cell?, hbx]
  have hne : hb ≠ mb := hm.ne hc1
  have hlt : hb < w0.heap.size := (Array.getElem?_eq_some_iff.1 hbx).1
  have hdr : Kp [] w0 w0.drew := (Kp.refl _ _).drew
  obtain ⟨w1, hrun, hm1, hk1⟩ := (hm.kp hdr (by simp)).store map29 hks hwf (thV p ⟨kind, tag, l⟩)
  have hk : Kp [mb] w0 w1 := Kp.trans (hdr.mono (by simp)) hk1
  have hbx1 : w1.heap[hb]? = some (.cells #[.int .i64 size, .map (some mb), .int .i64 next] 31) := (hk.block hb hlt (by simpa using hne)).trans hbx
  have hnk : next ∉ ks := fun h => by
    have := (hD.keys next).2 h
    rw [hfr] at this
    cases this
  refine ⟨w1, hrun, hk, by simp [World.frozen?, hbx1], hk, hbx1, Or.inr ⟨mb, rfl, ?_⟩, ?_, ?_, ?_⟩
  · rw [hfr] at hm1
    simp only [Option.map_none, Option.isSome_none, Bool.false_eq_true, if_false] at hm1
    have e : (fun b => (upd D next (some ⟨kind, tag, l⟩) b).map (thV (upd q next p b))) = upd (fun b => (D b).map (thV (q b))) next (some (thV p ⟨kind, tag, l⟩)) := by
      funext y
      by_cases hy : y = next
      · subst hy
        simp [upd_same]
      · simp [upd_other _ _ hy]
    rw [e, List.length_append]
    exact hm1
  · exact List.nodup_append.2 ⟨hD.nd, by simp, by intro a ha b hb; simp at hb; subst hb; exact fun e => hnk (e ▸ ha)⟩
  · intro b
    by_cases hy : b = next
    · subst hy
      simp [upd_same]
    · rw [upd_other _ _ hy, hD.keys b]
      simp [hy]
  · intro b t hbt
    have hM : ∀ {p : Option Addr} {l : List Cl}, RowC w0 p l → RowC w1 p l := fun {p l} h => h.block (fun hl a ha => by
      obtain ⟨b', o, e1, e2, _⟩ := h.get 0 (List.length_pos_iff.2 hl)
      rw [ha] at e1
      cases e1
      exact hk.block _ (World.block_lt_of_cell? _ _ e2) (by simpa using hm.ne e2))
    by_cases hy : b = next
    · subst hy
      rw [upd_same] at hbt ⊢
      cases hbt
      exact ⟨hM hr, hz, hwl⟩
    · rw [upd_other _ _ hy] at hbt ⊢
      obtain ⟨h1, h2, h3⟩ := hD.rows b t hbt
      exact ⟨hM h1, h2, h3⟩
theorem eqlSome (bm : Nat) (w : World) : (binOp .eql 29 (.map (some bm)) (.map none)).run Try.prog w = .ok (.bool false) w := by kernel_rfl
theorem eqlNil (w : World) : (binOp .eql 29 (.map none) (.map none)).run Try.prog w = .ok (.bool true) w := by kernel_rfl
/-- A first map. -/
theorem DocAt.first {w : World} {hb : Nat} {size next : Int} {D : Doc} {q : Int → Option Addr} {ks : List Int} (h : DocAt w hb size next D none q ks) : DocAt ((w.setCell ⟨hb, 1, none⟩ (.map (some w.heap.size))).alloc (.map #[] 0)) hb size next D (some w.heap.size) q ks ∧ Kp [hb] w ((w.setCell ⟨hb, 1, none⟩ (.map (some w.heap.size))).alloc (.map #[] 0)) := by
  have hbx := h.box
  have hlt : hb < w.heap.size := (Array.getElem?_eq_some_iff.1 hbx).1
  have hset : Kp [hb] w (w.setCell ⟨hb, 1, none⟩ (.map (some w.heap.size))) := Kp.setCell _ _ (by simp) _
  have hal : Kp [] (w.setCell ⟨hb, 1, none⟩ (.map (some w.heap.size))) ((w.setCell ⟨hb, 1, none⟩ (.map (some w.heap.size))).alloc (.map #[] 0)) := Kp.alloc _ _ _
  have hss : (w.setCell ⟨hb, 1, none⟩ (.map (some w.heap.size))).heap.size = w.heap.size := by simp [World.setCell]
  have hbx1 := (hal.block hb (by rw [hss]; exact hlt) (by simp)).trans (setCell1 hbx (u := .map (some w.heap.size)))
  have hks : ks = [] := by
    rcases h.map with ⟨_, h⟩ | ⟨_, h, _⟩
    · exact h
    · cases h
  have hno : ∀ b, D b = none := fun b => by
    have := h.keys b
    rw [hks] at this
    cases hd : D b with
    | none => rfl
    | some t => rw [hd] at this; simp at this
  refine ⟨⟨hbx1, Or.inr ⟨_, rfl, ?_⟩, h.nd, h.keys, fun b t hbt => ?_⟩, Kp.trans hset (hal.mono (by simp))⟩
  · have e : (fun b => (D b).map (thV (q b))) = fun _ => none := by funext y; rw [hno y]; rfl
    rw [e, hks]
    have := MapAt.made (w.setCell ⟨hb, 1, none⟩ (.map (some w.heap.size)))
    rw [hss] at this
    exact this
  · rw [hno b] at hbt
    cases hbt
section
set_option maxHeartbeats 4000000
set_option maxRecDepth 100000
theorem pick_any (w : World) (c : Int) (n : Nat) (hc : (Lit.int .i64 c).wf = true) (hn : 0 < n) (hm : n ≤ 4611686018427387904) :
    Calls Try.prog 8 #[.int .i64 c, .int .i64 n] w fun e w' => e = .returned (.int .i64 (pickN c n : Nat)) ∧ w' = w := by
  have hb := wf_i64 hc
  have hlt := pickN_lt c hn
  have hw : IntKind.i64.wrap ((pickN c n : Nat) : Int) = (pickN c n : Nat) := by rw [IntKind.wrap_i64]; omega
  have hnz : ¬ ((n : Int) = 0) := by omega
  by_cases h0 : c < 0
  · have hw1 : IntKind.i64.wrap (c + 1) = c + 1 := by rw [IntKind.wrap_i64]; omega
    have hw2 : IntKind.i64.wrap (-(c + 1)) = -(c + 1) := by rw [IntKind.wrap_i64]; omega
    have ht : (-(c + 1)).tmod (n : Int) = (pickN c n : Nat) := by
      have e : -(c + 1) = ((-(c + 1)).toNat : Int) := by omega
      unfold pickN
      rw [if_pos h0, ← tmod_nat, ← e]
    clear hc
    go_enter Try.func8, Try.ntmps8
    go_wp2
    exact bodyPost_ret (by simp [results, Try.results8, go_sem]) rfl ⟨rfl, rfl⟩
  · have ht : c.tmod (n : Int) = (pickN c n : Nat) := by
      have e : c = (c.toNat : Int) := by omega
      unfold pickN
      rw [if_neg h0, ← tmod_nat, ← e]
    clear hc
    go_enter Try.func8, Try.ntmps8
    go_wp2
    exact bodyPost_ret (by simp [results, Try.results8, go_sem]) rfl ⟨rfl, rfl⟩
theorem add_any (w : World) (hb : Nat) (size next : Int) (D : Doc) (mp : Option Nat) (q : Int → Option Addr) (ks : List Int) (hD : DocAt w hb size next D mp q ks) (hfr : D next = none) (kind tag : Int) (p : Option Addr) (l : List Cl) (hks : ks.length ≤ 1000000000) (hnx : 0 ≤ next ∧ next ≤ 9000000000000) (hr : RowC w p l) (hz : p = none → l.length = 0 ∧ l.length = 0) (hwl : ∀ c ∈ l, wfC c) :
    Calls Try.prog 29 #[.pointer (some ⟨hb, 0, none⟩), .int .i64 kind, .int .i64 tag, .slice p l.length l.length] w fun e w' => AddPost w hb size next D mp q ks kind tag p l e w' := by
  have hwf : (Lit.int .i64 next).wf = true := i64_wf (by omega)
  have hml : ks.length < maxLen := by unfold maxLen; omega
  have hw1 : IntKind.i64.wrap (next + 1) = next + 1 := by rw [IntKind.wrap_i64]; omega
  have hw2 : IntKind.i64.wrap (next + 1 - 1) = next := by rw [IntKind.wrap_i64]; omega
  have hw3 : IntKind.i64.wrap next = next := by rw [IntKind.wrap_i64]; omega
  have hbx := hD.box
  have hbl : hb < w.heap.size := (Array.getElem?_eq_some_iff.1 hbx).1
  have hc1 : w.cell? ⟨hb, 1, none⟩ = some (.map mp) := by simp [World.cell?, hbx]
  have hf1 : w.frozen? ⟨hb, 1, none⟩ = false := by simp [World.frozen?, hbx]
  have HD : Hid (DocAt w hb size next D mp q ks) := hD
  have Hr : Hid (RowC w p l) := hr
  clear hD hr hbx
  have hmm := @run_makeMap Try.prog
  have hq1 := eqlSome
  have hq2 := eqlNil
  cases mp with
  | none =>
    have H0 := HD.out.first
    have hA : Kp [] w (w.alloc (.map #[] 0)) := Kp.alloc _ _ _
    have hc1' : (w.alloc (.map #[] 0)).cell? ⟨hb, 1, none⟩ = some (.map none) := hA.cell hc1 (by simp)
    have hf1' : (w.alloc (.map #[] 0)).frozen? ⟨hb, 1, none⟩ = false := (hA.frozen hbl (by simp)).trans hf1
    have hr0 : Hid (RowC ((w.setCell ⟨hb, 1, none⟩ (.map (some w.heap.size))).alloc (.map #[] 0)) p l) := Hr.out.block (fun hl a ha => H0.2.block _ (Hr.out.lt hl a ha) (by simpa using Hr.out.ne_box hl HD.out.box a ha))
    have HD0 : Hid (DocAt ((w.setCell ⟨hb, 1, none⟩ (.map (some w.heap.size))).alloc (.map #[] 0)) hb size next D (some w.heap.size) q ks) := H0.1
    have HK0 : Hid (Kp [hb] w ((w.setCell ⟨hb, 1, none⟩ (.map (some w.heap.size))).alloc (.map #[] 0)) ∧ ((none : Option Nat) = some w.heap.size ∨ (none : Option Nat) = none ∧ w.heap.size ≤ w.heap.size)) := ⟨H0.2, Or.inr ⟨rfl, Nat.le_refl _⟩⟩
    clear H0 hA
    go_enter Try.func29, Try.ntmps29
    go_upto_region 3 with fail
    clear hc1' hf1' hc1 hf1 Hr HD
    have Hmb : Hid (hb < w.heap.size) := hbl
    clear hbl
    generalize ((w.setCell ⟨hb, 1, none⟩ (.map (some w.heap.size))).alloc (.map #[] 0)) = w0 at HD0 HK0 hr0 ⊢
    generalize hmb : w.heap.size = mb at HD0 Hmb ⊢
    have HK0 : Hid (Kp [hb] w w0 ∧ ((none : Option Nat) = some mb ∨ (none : Option Nat) = none ∧ w.heap.size ≤ mb)) := ⟨HK0.out.1, Or.inr ⟨rfl, Nat.le_of_eq hmb⟩⟩
    clear hmb
    have Hbox : Hid (∀ wx, Kp [mb] w0 wx → wx.cell? ⟨hb, 1, none⟩ = some (.map (some mb)) ∧ wx.cell? ⟨hb, 2, none⟩ = some (.int .i64 next) ∧ hb < wx.heap.size) := fun wx hx => HD0.out.cells hx
    refine region_any (C := fun wx => Kp [mb] w0 wx) (by kernel_rfl) ?_
    refine anyIn_read (i := 0) rfl (by kernel_rfl) (by kernel_rfl) (by kernel_rfl) (fun _ _ _ _ h => h) ?_
    apply Exists.intro
    refine ⟨Or.inl ⟨by rfl, fun wx hwx => ?_⟩, ?_⟩
    (go_simp; first | done | with_reducible rfl)
    refine anyIn_read (i := 1) rfl (by kernel_rfl) (by kernel_rfl) (by kernel_rfl) (fun _ _ _ _ h => h) ?_
    apply Exists.intro
    refine ⟨Or.inl ⟨by rfl, fun wx hwx => ?_⟩, ?_⟩
    (go_simp; first | done | with_reducible rfl)
    refine anyIn_read (i := 2) rfl (by kernel_rfl) (by kernel_rfl) (by kernel_rfl) (fun _ _ _ _ h => h) ?_
    apply Exists.intro
    refine ⟨Or.inl ⟨by rfl, fun wx hwx => ?_⟩, ?_⟩
    (go_simp; first | done | with_reducible rfl)
    refine anyIn_read (i := 3) rfl (by kernel_rfl) (by kernel_rfl) (by kernel_rfl) (fun _ _ _ _ h => h) ?_
    apply Exists.intro
    refine ⟨Or.inl ⟨by rfl, fun wx hwx => ?_⟩, ?_⟩
    (obtain ⟨f0, f1, f2⟩ := Hbox.out wx hwx; go_simp; first | done | with_reducible rfl)
    refine anyIn_read (i := 4) rfl (by kernel_rfl) (by kernel_rfl) (by kernel_rfl) (fun _ _ _ _ h => h) ?_
    apply Exists.intro
    refine ⟨Or.inl ⟨by rfl, fun wx hwx => ?_⟩, ?_⟩
    (go_simp; first | done | with_reducible rfl)
    refine anyIn_read (i := 5) rfl (by kernel_rfl) (by kernel_rfl) (by kernel_rfl) (fun _ _ _ _ h => h) ?_
    apply Exists.intro
    refine ⟨Or.inl ⟨by rfl, fun wx hwx => ?_⟩, ?_⟩
    (go_simp; first | done | with_reducible rfl)
    refine anyIn_read (i := 6) rfl (by kernel_rfl) (by kernel_rfl) (by kernel_rfl) (fun _ _ _ _ h => h) ?_
    apply Exists.intro
    refine ⟨Or.inl ⟨by rfl, fun wx hwx => ?_⟩, ?_⟩
    (go_simp; first | done | with_reducible rfl)
    refine anyIn_read (i := 7) rfl (by kernel_rfl) (by kernel_rfl) (by kernel_rfl) (fun _ _ _ _ h => h) ?_
    apply Exists.intro
    refine ⟨Or.inl ⟨by rfl, fun wx hwx => ?_⟩, ?_⟩
    (obtain ⟨f0, f1, f2⟩ := Hbox.out wx hwx; go_simp; first | done | with_reducible rfl)
    refine anyIn_read (i := 8) rfl (by kernel_rfl) (by kernel_rfl) (by kernel_rfl) (fun _ _ _ _ h => h) ?_
    apply Exists.intro
    refine ⟨Or.inl ⟨by rfl, fun wx hwx => ?_⟩, ?_⟩
    (go_simp; first | done | with_reducible rfl)
    refine anyIn_read (i := 9) rfl (by kernel_rfl) (by kernel_rfl) (by kernel_rfl) (fun _ _ _ _ h => h) ?_
    apply Exists.intro
    refine ⟨Or.inl ⟨by rfl, fun wx hwx => ?_⟩, ?_⟩
    (go_simp; first | done | with_reducible rfl)
    refine anyIn_read (i := 10) rfl (by kernel_rfl) (by kernel_rfl) (by kernel_rfl) (fun _ _ _ _ h => h) ?_
    apply Exists.intro
    refine ⟨Or.inl ⟨by rfl, fun wx hwx => ?_⟩, ?_⟩
    (go_simp; first | done | with_reducible rfl)
    refine anyIn_read (i := 11) rfl (by kernel_rfl) (by kernel_rfl) (by kernel_rfl) (fun _ _ _ _ h => h) ?_
    apply Exists.intro
    refine ⟨Or.inl ⟨by rfl, fun wx hwx => ?_⟩, ?_⟩
    (go_simp; first | done | with_reducible rfl)
    obtain ⟨w1, hrun, HP⟩ := add_step HD0.out hfr kind tag p l (by omega) hwf hr0.out hz hwl
    refine anyIn_one (i := 12) ((Kp.refl _ _).drew) rfl (by kernel_rfl) (fun K hK => ?_)
    go_simp
    refine hK _ _ ?_
    clear hK K
    refine anyIn_done HP.out.1 (by kernel_rfl) ?_
    go_simp
    obtain ⟨f0, f1, f2⟩ := Hbox.out w1 HP.out.1
    have f3 : w1.frozen? ⟨hb, 2, none⟩ = false := HP.out.2.1
    have Q : Hid (AddPost w hb size next D none q ks kind tag p l (.returned (.int .i64 next)) (w1.setCell ⟨hb, 2, none⟩ (.int .i64 (next + 1)))) := HP.out.2.2.post HK0.out
    clear hrun HP Hbox hr0 HD0 HK0 hfr hz hwl
    go_wp2
    exact bodyPost_ret (by simp [results, Try.results29, go_sem]) rfl Q.out
  | some mb =>
    have HD0 : Hid (DocAt w hb size next D (some mb) q ks) := HD.out
    have HK0 : Hid (Kp [hb] w w ∧ (some mb = some mb ∨ some mb = none ∧ w.heap.size ≤ mb)) := ⟨Kp.refl _ _, Or.inl rfl⟩
    have hr0 := Hr
    clear HD Hr hbl hf1
    go_enter Try.func29, Try.ntmps29
    have Hbox : Hid (∀ wx, Kp [mb] w wx → wx.cell? ⟨hb, 1, none⟩ = some (.map (some mb)) ∧ wx.cell? ⟨hb, 2, none⟩ = some (.int .i64 next) ∧ hb < wx.heap.size) := fun wx hx => HD0.out.cells hx
    go_upto_region 3 with fail
    refine region_any (C := fun wx => Kp [mb] w wx) (by kernel_rfl) ?_
    refine anyIn_read (i := 0) rfl (by kernel_rfl) (by kernel_rfl) (by kernel_rfl) (fun _ _ _ _ h => h) ?_
    apply Exists.intro
    refine ⟨Or.inl ⟨by rfl, fun wx hwx => ?_⟩, ?_⟩
    (go_simp; first | done | with_reducible rfl)
    refine anyIn_read (i := 1) rfl (by kernel_rfl) (by kernel_rfl) (by kernel_rfl) (fun _ _ _ _ h => h) ?_
    apply Exists.intro
    refine ⟨Or.inl ⟨by rfl, fun wx hwx => ?_⟩, ?_⟩
    (go_simp; first | done | with_reducible rfl)
    refine anyIn_read (i := 2) rfl (by kernel_rfl) (by kernel_rfl) (by kernel_rfl) (fun _ _ _ _ h => h) ?_
    apply Exists.intro
    refine ⟨Or.inl ⟨by rfl, fun wx hwx => ?_⟩, ?_⟩
    (go_simp; first | done | with_reducible rfl)
    refine anyIn_read (i := 3) rfl (by kernel_rfl) (by kernel_rfl) (by kernel_rfl) (fun _ _ _ _ h => h) ?_
    apply Exists.intro
    refine ⟨Or.inl ⟨by rfl, fun wx hwx => ?_⟩, ?_⟩
    (obtain ⟨f0, f1, f2⟩ := Hbox.out wx hwx; go_simp; first | done | with_reducible rfl)
    refine anyIn_read (i := 4) rfl (by kernel_rfl) (by kernel_rfl) (by kernel_rfl) (fun _ _ _ _ h => h) ?_
    apply Exists.intro
    refine ⟨Or.inl ⟨by rfl, fun wx hwx => ?_⟩, ?_⟩
    (go_simp; first | done | with_reducible rfl)
    refine anyIn_read (i := 5) rfl (by kernel_rfl) (by kernel_rfl) (by kernel_rfl) (fun _ _ _ _ h => h) ?_
    apply Exists.intro
    refine ⟨Or.inl ⟨by rfl, fun wx hwx => ?_⟩, ?_⟩
    (go_simp; first | done | with_reducible rfl)
    refine anyIn_read (i := 6) rfl (by kernel_rfl) (by kernel_rfl) (by kernel_rfl) (fun _ _ _ _ h => h) ?_
    apply Exists.intro
    refine ⟨Or.inl ⟨by rfl, fun wx hwx => ?_⟩, ?_⟩
    (go_simp; first | done | with_reducible rfl)
    refine anyIn_read (i := 7) rfl (by kernel_rfl) (by kernel_rfl) (by kernel_rfl) (fun _ _ _ _ h => h) ?_
    apply Exists.intro
    refine ⟨Or.inl ⟨by rfl, fun wx hwx => ?_⟩, ?_⟩
    (obtain ⟨f0, f1, f2⟩ := Hbox.out wx hwx; go_simp; first | done | with_reducible rfl)
    refine anyIn_read (i := 8) rfl (by kernel_rfl) (by kernel_rfl) (by kernel_rfl) (fun _ _ _ _ h => h) ?_
    apply Exists.intro
    refine ⟨Or.inl ⟨by rfl, fun wx hwx => ?_⟩, ?_⟩
    (go_simp; first | done | with_reducible rfl)
    refine anyIn_read (i := 9) rfl (by kernel_rfl) (by kernel_rfl) (by kernel_rfl) (fun _ _ _ _ h => h) ?_
    apply Exists.intro
    refine ⟨Or.inl ⟨by rfl, fun wx hwx => ?_⟩, ?_⟩
    (go_simp; first | done | with_reducible rfl)
    refine anyIn_read (i := 10) rfl (by kernel_rfl) (by kernel_rfl) (by kernel_rfl) (fun _ _ _ _ h => h) ?_
    apply Exists.intro
    refine ⟨Or.inl ⟨by rfl, fun wx hwx => ?_⟩, ?_⟩
    (go_simp; first | done | with_reducible rfl)
    refine anyIn_read (i := 11) rfl (by kernel_rfl) (by kernel_rfl) (by kernel_rfl) (fun _ _ _ _ h => h) ?_
    apply Exists.intro
    refine ⟨Or.inl ⟨by rfl, fun wx hwx => ?_⟩, ?_⟩
    (go_simp; first | done | with_reducible rfl)
    obtain ⟨w1, hrun, HP⟩ := add_step HD0.out hfr kind tag p l (by omega) hwf hr0.out hz hwl
    refine anyIn_one (i := 12) ((Kp.refl _ _).drew) rfl (by kernel_rfl) (fun K hK => ?_)
    go_simp
    refine hK _ _ ?_
    clear hK K
    refine anyIn_done HP.out.1 (by kernel_rfl) ?_
    go_simp
    obtain ⟨f0, f1, f2⟩ := Hbox.out w1 HP.out.1
    have f3 : w1.frozen? ⟨hb, 2, none⟩ = false := HP.out.2.1
    have Q : Hid (AddPost w hb size next D (some mb) q ks kind tag p l (.returned (.int .i64 next)) (w1.setCell ⟨hb, 2, none⟩ (.int .i64 (next + 1)))) := HP.out.2.2.post HK0.out
    clear hrun HP Hbox hr0 HD0 HK0 hfr hz hwl
    go_wp2
    exact bodyPost_ret (by simp [results, Try.results29, go_sem]) rfl Q.out
end
end Go.Proofs.Ytfeopoamednidaa
