/-
  The layer heap: alike answers true where the two sides go together.
-/
import Derived.Test.YtfeopoamednidaaH12
import Derived.BigQuiet
namespace Go.Proofs.Ytfeopoamednidaa
open Go.RowKit Go.Deep
/-- A region that draws its order, each operation the same in every world of a class. -/
theorem region_in {P : Program} {C : World → Prop} {id : Nat} {Q : Exit → Act → World → Prop} {a : Act} {w : World} {l : List Oper} (hm : P.follows .mixedOrders = true) (hB : Region.lexB .any l.toArray = true) (hC : C w.drew)
    (h : wpQuiet P l.toArray C (fun a' => ∀ w', C w' → Q .normal a' w') l a) : (Code.region id l.toArray true).wp P Q a w := wp_region_quiet (C := C) hm hB hC (by simpa using h)
section
set_option maxHeartbeats 8000000
set_option maxRecDepth 100000
theorem alike_any (w : World) (wb : Nat) (hv : Value) (hb base0 : Nat) (p : Option Addr) (cp : Nat) (ps : List Cl) (q : Option Addr) (cq : Nat) (qs : List Cl) (hS : MS w wb hv hb base0 (.slice p ps.length cp) ps (.slice q qs.length cq) qs) (size next : Int) (P D : Doc) (mp : Option Nat) (qd : Int → Option Addr) (ks : List Int) (hD : DocAt w hb size next D mp qd ks) (hG : PGet w hv P) (R : Int → Int → Prop) (hI : Iso P D R ps qs)
    (hwp : ∀ c ∈ ps, wfC c) (hwq : ∀ c ∈ qs, wfC c) (hwP : ∀ x t, P x = some t → ∀ c ∈ t.fs, wfC c) (hlp : ps.length ≤ 4000000000000) (hks : ks.length ≤ 1000000000) (hwk : ∀ y ∈ ks, (Lit.int .i64 y).wf = true) :
    Calls Try.prog 6 #[.pointer (some ⟨wb, 0, none⟩)] w fun e w' => e = .returned (.bool true) ∧ Below w.heap.size w w' := by
  have HS : Hid (MS w wb hv hb base0 (.slice p ps.length cp) ps (.slice q qs.length cq) qs) := hS
  have HD : Hid (DocAt w hb size next D mp qd ks) := hD
  have HI : Hid (Iso P D R ps qs) := hI
  have HG : Hid (PGet w hv P) := hG
  have Hwp : Hid (∀ c ∈ ps, wfC c) := hwp
  have Hwq : Hid (∀ c ∈ qs, wfC c) := hwq
  have HwP : Hid (∀ x t, P x = some t → ∀ c ∈ t.fs, wfC c) := hwP
  have Hpq : Hid (ps.length = qs.length) := hI.roots.len
  have Hwk : Hid (∀ y ∈ ks, (Lit.int .i64 y).wf = true) := hwk
  clear hwk
  have HP0 := PS.made w
  have HP : Hid (PS (((((w.alloc (.map #[] 0)).alloc (.cells #[.map (some w.heap.size)] 58)).alloc (.map #[] 0)).alloc (.cells #[.map (some (w.heap.size + 2))] 58)).alloc (.cells #[.slice none 0 0] 59)) (w.heap.size + 1) (w.heap.size + 3) (w.heap.size + 4) w.heap.size (w.heap.size + 2) (w.heap.size + 5) w.heap.size (.slice none 0 0) []) := HP0.1
  have HK : Hid (Below w.heap.size w (((((w.alloc (.map #[] 0)).alloc (.cells #[.map (some w.heap.size)] 58)).alloc (.map #[] 0)).alloc (.cells #[.map (some (w.heap.size + 2))] 58)).alloc (.cells #[.slice none 0 0] 59))) := HP0.2.below (Nat.le_refl _) (by simp)
  have HT : Hid (∀ T : Prs, (∀ p ∈ T, R p.1 p.2) → T.Nodup → T.length ≤ ks.length) := fun T h1 h2 => pairs_len hI.one h1 h2 (fun x y h => by
    obtain ⟨t, u, _, e, _⟩ := hI.things x y h
    exact (hD.keys y).1 (by rw [e]; rfl))
  have Hbox : Hid (∀ wx, Below w.heap.size w wx → wx.cell? ⟨wb, 0, none⟩ = some hv ∧ wx.cell? ⟨wb, 1, none⟩ = some (.pointer (some ⟨hb, 0, none⟩)) ∧ wx.cell? ⟨wb, 2, none⟩ = some (.slice p ps.length cp) ∧ wx.cell? ⟨wb, 3, none⟩ = some (.slice q qs.length cq) ∧ wb < wx.heap.size) := fun wx hx => by
    have h1 := (hx.block wb (Array.getElem?_eq_some_iff.1 hS.box).1).trans hS.box
    exact ⟨by simp only [World.cell?, h1]; rfl, by simp only [World.cell?, h1]; rfl, by simp only [World.cell?, h1]; rfl, by simp only [World.cell?, h1]; rfl, (Array.getElem?_eq_some_iff.1 h1).1⟩
  have Hrow : Hid (∀ i (hi : i < ps.length) (hk : i < qs.length), ∃ b o b' o', p = some ⟨b, o, none⟩ ∧ q = some ⟨b', o', none⟩ ∧ ∀ wx, Below w.heap.size w wx → (wx.cell? ⟨b, o + i * 2, none⟩ = some (.bool (ps[i]'hi).p) ∧ wx.cell? ⟨b, o + i * 2 + 1, none⟩ = some (.int .i64 (ps[i]'hi).n) ∧ b < wx.heap.size) ∧ wx.cell? ⟨b', o' + i * 2, none⟩ = some (.bool (qs[i]'hk).p) ∧ wx.cell? ⟨b', o' + i * 2 + 1, none⟩ = some (.int .i64 (qs[i]'hk).n) ∧ b' < wx.heap.size) := fun i hi hk => by
    obtain ⟨_, _, e, _, r1⟩ := hS.p.at (by unfold maxLen; omega)
    cases e
    obtain ⟨_, _, e, _, r2⟩ := hS.q.at (by unfold maxLen; have := hI.roots.len; omega)
    cases e
    obtain ⟨b, o, e1, c1, c2⟩ := r1.get i hi
    obtain ⟨b', o', e2, c3, c4⟩ := r2.get i hk
    refine ⟨b, o, b', o', e1, e2, fun wx hx => ?_⟩
    have hk : Kp [] w wx := Kp.of_below hx
    exact ⟨⟨hk.cell c1 (by simp), hk.cell c2 (by simp), Nat.lt_of_lt_of_le (World.block_lt_of_cell? _ _ c1) hk.size⟩, hk.cell c3 (by simp), hk.cell c4 (by simp), Nat.lt_of_lt_of_le (World.block_lt_of_cell? _ _ c3) hk.size⟩
  clear hS hD hI hG hwp hwq hwP HP0
  have hmm := @run_makeMap Try.prog
  go_enter Try.func6, Try.ntmps6
  go_wp2_with fail
  have HP : Hid (PS (((((w.alloc (.map #[] 0)).alloc (.cells #[.map (some w.heap.size)] 58)).alloc (.map #[] 0)).alloc (.cells #[.map (some (w.heap.size + 1 + 1))] 58)).alloc (.cells #[.slice none 0 0] 59)) (w.heap.size + 1) (w.heap.size + 1 + 1 + 1) (w.heap.size + 1 + 1 + 1 + 1) w.heap.size (w.heap.size + 1 + 1) (w.heap.size + 5) w.heap.size (.slice none 0 0) []) := HP
  have HK : Hid (Below w.heap.size w (((((w.alloc (.map #[] 0)).alloc (.cells #[.map (some w.heap.size)] 58)).alloc (.map #[] 0)).alloc (.cells #[.map (some (w.heap.size + 1 + 1))] 58)).alloc (.cells #[.slice none 0 0] 59))) := HK
  generalize (((((w.alloc (.map #[] 0)).alloc (.cells #[.map (some w.heap.size)] 58)).alloc (.map #[] 0)).alloc (.cells #[.map (some (w.heap.size + 1 + 1))] 58)).alloc (.cells #[.slice none 0 0] 59)) = w5 at HP HK ⊢
  generalize w.heap.size + 5 = base at HP ⊢
  generalize w.heap.size + 1 + 1 + 1 + 1 = db at HP ⊢
  generalize w.heap.size + 1 + 1 + 1 = kb at HP ⊢
  generalize w.heap.size + 1 + 1 = km at HP ⊢
  generalize w.heap.size + 1 = tb at HP ⊢
  go_loopg [7] (ps.length) (fun g iv wr => ∃ (i : Nat) (T : Prs) (v : Value), iv = .int .i64 (i : Nat) ∧ i ≤ ps.length ∧ g = ps.length - i ∧ Hid (PS wr tb kb db w.heap.size km base w.heap.size v T ∧ (∀ p ∈ T, R p.1 p.2) ∧ T.Nodup ∧ Below w.heap.size w wr))
  case atStart => exact ⟨0, [], .slice none 0 0, rfl, by omega, by omega, HP.out, by simp, by simp, HK.out⟩
  case round =>
    obtain ⟨i, T, v, rfl, hi1, rfl, HL⟩ := hrel
    obtain ⟨f0, f1, f2, f3, f4⟩ := Hbox.out wr HL.out.2.2.2
    clear HP HK f0 f1 f3
    by_cases hi : i < ps.length
    · have hi' : (i : Int) < (ps.length : Nat) := by omega
      have hlq : i < qs.length := by have := Hpq.out; omega
      have hiq : (i : Int) < (qs.length : Nat) := by omega
      have hwN : IntKind.i64.wrap ((i : Int) + 1) = (i : Int) + 1 := by rw [IntKind.wrap_i64]; omega
      obtain ⟨b, o, b', o', rfl, rfl, hc⟩ := Hrow.out i hi hlq
      have Hc : Hid _ := hc
      clear hc
      have hC := HI.out.roots.at_ i hi hlq
      have hwa := Hwp.out _ (List.getElem_mem hi)
      have hwb := Hwq.out _ (List.getElem_mem hlq)
      generalize ps[i]'hi = x at *
      generalize qs[i]'hlq = y at *
      have Hpair : Hid (∀ wx, (∃ v T, PS wx tb kb db w.heap.size km base w.heap.size v T ∧ (∀ p ∈ T, R p.1 p.2) ∧ T.Nodup ∧ Below w.heap.size w wx) → Calls Try.prog 16 #[x.val, y.val, .pointer (some ⟨tb, 0, none⟩), .pointer (some ⟨kb, 0, none⟩), .pointer (some ⟨db, 0, none⟩)] wx fun e w' => e = .returned (.bool true) ∧ ∃ v T, PS w' tb kb db w.heap.size km base w.heap.size v T ∧ (∀ p ∈ T, R p.1 p.2) ∧ T.Nodup ∧ Below w.heap.size w w') := fun wx hx => by
        obtain ⟨v, T, h1, h2, h3, h4⟩ := hx
        refine Calls.mono (pair_any wx R HI.out.one tb kb db w.heap.size km base w.heap.size v T h1 h4.size h2 h3 (by have := HT.out T h2 h3; omega) x y hwa hwb hC) ?_
        rintro e w' ⟨T2, v', rfl, g1, g2, g3, g4, g5, _⟩
        exact ⟨rfl, v', T ++ T2, g1, g3, g4, h4.trans g5⟩
      clear hC hwa hwb
      obtain ⟨xp, xn⟩ := x
      obtain ⟨yp, yn⟩ := y
      simp only [Cl.val] at Hpair
      simp only at Hc
      go_upto_region 8 with fail
      refine region_any (C := fun wx => Below w.heap.size w wx) (by kernel_rfl) ?_
      refine anyIn_read (i := 0) rfl (by kernel_rfl) (by kernel_rfl) (by kernel_rfl) (fun _ _ _ _ h => h) ?_
      apply Exists.intro
      refine ⟨Or.inl ⟨by rfl, fun wx hwx => ?_⟩, ?_⟩
      (go_simp; first | done | with_reducible rfl)
      refine anyIn_read (i := 1) rfl (by kernel_rfl) (by kernel_rfl) (by kernel_rfl) (fun _ _ _ _ h => h) ?_
      apply Exists.intro
      refine ⟨Or.inl ⟨by rfl, fun wx hwx => ?_⟩, ?_⟩
      (go_simp; first | done | with_reducible rfl)
      refine anyIn_read (i := 2) rfl (by kernel_rfl) (by kernel_rfl) (by kernel_rfl) (fun _ _ _ _ h => h) ?_
      apply Exists.intro
      refine ⟨Or.inl ⟨by rfl, fun wx hwx => ?_⟩, ?_⟩
      (go_simp; first | done | with_reducible rfl)
      refine anyIn_read (i := 3) rfl (by kernel_rfl) (by kernel_rfl) (by kernel_rfl) (fun _ _ _ _ h => h) ?_
      apply Exists.intro
      refine ⟨Or.inl ⟨by rfl, fun wx hwx => ?_⟩, ?_⟩
      (go_simp; first | done | with_reducible rfl)
      refine anyIn_read (i := 4) rfl (by kernel_rfl) (by kernel_rfl) (by kernel_rfl) (fun _ _ _ _ h => h) ?_
      apply Exists.intro
      refine ⟨Or.inl ⟨by rfl, fun wx hwx => ?_⟩, ?_⟩
      (obtain ⟨f0, f1, f2, f3, f4⟩ := Hbox.out wx hwx; obtain ⟨⟨g0, g1, g2⟩, g3, g4, g5⟩ := Hc.out wx hwx; go_simp; first | done | with_reducible rfl)
      refine anyIn_read (i := 5) rfl (by kernel_rfl) (by kernel_rfl) (by kernel_rfl) (fun _ _ _ _ h => h) ?_
      apply Exists.intro
      refine ⟨Or.inl ⟨by rfl, fun wx hwx => ?_⟩, ?_⟩
      (go_simp; first | done | with_reducible rfl)
      refine anyIn_read (i := 6) rfl (by kernel_rfl) (by kernel_rfl) (by kernel_rfl) (fun _ _ _ _ h => h) ?_
      apply Exists.intro
      refine ⟨Or.inl ⟨by rfl, fun wx hwx => ?_⟩, ?_⟩
      (obtain ⟨f0, f1, f2, f3, f4⟩ := Hbox.out wx hwx; obtain ⟨⟨g0, g1, g2⟩, g3, g4, g5⟩ := Hc.out wx hwx; go_simp; first | done | with_reducible rfl)
      refine anyIn_read (i := 7) rfl (by kernel_rfl) (by kernel_rfl) (by kernel_rfl) (fun _ _ _ _ h => h) ?_
      apply Exists.intro
      refine ⟨Or.inl ⟨by rfl, fun wx hwx => ?_⟩, ?_⟩
      (obtain ⟨f0, f1, f2, f3, f4⟩ := Hbox.out wx hwx; obtain ⟨⟨g0, g1, g2⟩, g3, g4, g5⟩ := Hc.out wx hwx; go_simp; first | done | with_reducible rfl)
      refine anyIn_read (i := 8) rfl (by kernel_rfl) (by kernel_rfl) (by kernel_rfl) (fun _ _ _ _ h => h) ?_
      apply Exists.intro
      refine ⟨Or.inl ⟨by rfl, fun wx hwx => ?_⟩, ?_⟩
      (go_simp; first | done | with_reducible rfl)
      refine anyIn_read (i := 9) rfl (by kernel_rfl) (by kernel_rfl) (by kernel_rfl) (fun _ _ _ _ h => h) ?_
      apply Exists.intro
      refine ⟨Or.inl ⟨by rfl, fun wx hwx => ?_⟩, ?_⟩
      (go_simp; first | done | with_reducible rfl)
      refine anyIn_read (i := 10) rfl (by kernel_rfl) (by kernel_rfl) (by kernel_rfl) (fun _ _ _ _ h => h) ?_
      apply Exists.intro
      refine ⟨Or.inl ⟨by rfl, fun wx hwx => ?_⟩, ?_⟩
      (go_simp; first | done | with_reducible rfl)
      refine anyIn_read (i := 11) rfl (by kernel_rfl) (by kernel_rfl) (by kernel_rfl) (fun _ _ _ _ h => h) ?_
      apply Exists.intro
      refine ⟨Or.inl ⟨by rfl, fun wx hwx => ?_⟩, ?_⟩
      (obtain ⟨f0, f1, f2, f3, f4⟩ := Hbox.out wx hwx; obtain ⟨⟨g0, g1, g2⟩, g3, g4, g5⟩ := Hc.out wx hwx; go_simp; first | done | with_reducible rfl)
      refine anyIn_read (i := 12) rfl (by kernel_rfl) (by kernel_rfl) (by kernel_rfl) (fun _ _ _ _ h => h) ?_
      apply Exists.intro
      refine ⟨Or.inl ⟨by rfl, fun wx hwx => ?_⟩, ?_⟩
      (go_simp; first | done | with_reducible rfl)
      refine anyIn_read (i := 13) rfl (by kernel_rfl) (by kernel_rfl) (by kernel_rfl) (fun _ _ _ _ h => h) ?_
      apply Exists.intro
      refine ⟨Or.inl ⟨by rfl, fun wx hwx => ?_⟩, ?_⟩
      (obtain ⟨f0, f1, f2, f3, f4⟩ := Hbox.out wx hwx; obtain ⟨⟨g0, g1, g2⟩, g3, g4, g5⟩ := Hc.out wx hwx; go_simp; first | done | with_reducible rfl)
      refine anyIn_read (i := 14) rfl (by kernel_rfl) (by kernel_rfl) (by kernel_rfl) (fun _ _ _ _ h => h) ?_
      apply Exists.intro
      refine ⟨Or.inl ⟨by rfl, fun wx hwx => ?_⟩, ?_⟩
      (obtain ⟨f0, f1, f2, f3, f4⟩ := Hbox.out wx hwx; obtain ⟨⟨g0, g1, g2⟩, g3, g4, g5⟩ := Hc.out wx hwx; go_simp; first | done | with_reducible rfl)
      refine anyIn_one (i := 15) HL.out.2.2.2.drew rfl (by kernel_rfl) (fun K hK => ?_)
      go_simp
      refine Calls.mono (Hpair.out _ ⟨v, T, HL.out.1.grown (Kp.refl _ _).drew, HL.out.2.1, HL.out.2.2.1, HL.out.2.2.2.drew⟩) ?_
      rintro e w6 ⟨rfl, v6, T6, g1, g2, g3, g4⟩
      refine hK _ _ ?_
      clear hK K
      have HL6 : Hid (PS w6 tb kb db w.heap.size km base w.heap.size v6 T6 ∧ (∀ p ∈ T6, R p.1 p.2) ∧ T6.Nodup ∧ Below w.heap.size w w6) := ⟨g1, g2, g3, g4⟩
      clear g1 g2 g3 g4
      refine anyIn_one (i := 16) HL6.out.2.2.2 rfl (by kernel_rfl) (fun K hK => ?_)
      go_simp
      refine hK _ _ ?_
      clear hK K
      refine anyIn_done HL6.out.2.2.2 (by kernel_rfl) ?_
      go_simp
      clear Hpair Hc HL f2 f4
      go_wp2
      go_roundg (ps.length - (i + 1))
      case measure => omega
      case rel => exact ⟨i + 1, T6, v6, by first | rfl | (congr 1; omega) | go_num, by omega, rfl, HL6.out⟩
    · have hi' : ¬ ((i : Int) < (ps.length : Nat)) := by omega
      clear Hrow
      go_wp2_with fail
      go_loopg [9] (ks.length) (fun g kv wr => ∃ (k : Nat) (T : Prs) (v : Value), kv = .int .i64 (k : Nat) ∧ k ≤ T.length ∧ g = ks.length - k ∧ Hid (PS wr tb kb db w.heap.size km base w.heap.size v T ∧ (∀ p ∈ T, R p.1 p.2) ∧ T.Nodup ∧ Below w.heap.size w wr))
      case atStart => exact ⟨0, T, v, rfl, by omega, by omega, HL.out⟩
      case round =>
        clear f2 f4 HL hi hi' hi1
        obtain ⟨k, T, v, rfl, hk1, rfl, HL⟩ := hrel
        obtain ⟨k1, k2, k3, k4⟩ := HL.out
        have hTl := HT.out T k2 k3
        have hd0 : wr.cell? ⟨db, 0, none⟩ = some v := by simp only [World.cell?, k1.todo]; rfl
        have hdl : db < wr.heap.size := (Array.getElem?_eq_some_iff.1 k1.todo).1
        obtain ⟨qv, cv, hve, hrow⟩ := k1.own.at
        subst hve
        by_cases hk : k < T.length
        · have hk' : (k : Int) < (T.length : Nat) := by omega
          have hwN : IntKind.i64.wrap ((k : Int) + 1) = (k : Int) + 1 := by rw [IntKind.wrap_i64]; omega
          obtain ⟨bt, rfl, hc0, hc1⟩ := hrow k hk
          have hRk := k2 _ (List.getElem_mem hk)
          obtain ⟨t, u, ht, hu, hth⟩ := HI.out.things _ _ hRk
          have hyk := (HD.out.keys _).1 (show (D (T[k]'hk).2).isSome = true from by rw [hu]; rfl)
          have hwy := Hwk.out _ hyk
          generalize T[k]'hk = z at *
          obtain ⟨x, y⟩ := z
          simp only at hc0 hc1 hRk ht hu hyk hwy
          obtain ⟨urow, unil, uwf⟩ := HD.out.rows y u hu
          obtain ⟨mb, hmp, hmap⟩ : ∃ mb, mp = some mb ∧ MapAt w mb ks.length (fun b => (D b).map (thV (qd b))) := by
            rcases HD.out.map with ⟨_, h2⟩ | h
            · rw [h2] at hyk
              cases hyk
            · exact h
          have hbt : bt < wr.heap.size := World.block_lt_of_cell? _ _ hc0
          have H15 : Hid (∀ wx, Kp [] wr wx → (wx.cell? ⟨wb, 1, none⟩ = some (.pointer (some ⟨hb, 0, none⟩)) ∧ wb < wx.heap.size) ∧ (wx.cell? ⟨hb, 1, none⟩ = some (.map (some mb)) ∧ hb < wx.heap.size) ∧ (wx.cell? ⟨db, 0, none⟩ = some (.slice (some ⟨bt, 0, none⟩) T.length cv) ∧ db < wx.heap.size) ∧ (wx.cell? ⟨bt, k * 2 + 1, none⟩ = some (.int .i64 y) ∧ bt < wx.heap.size) ∧ (Instr.lookup 29 (.map (some mb)) (.int .i64 y) false).run Try.prog wx = .ok (.agg #[.int .i64 u.kind, .int .i64 u.tag, .slice (qd y) u.fs.length u.fs.length]) wx) := fun wx hx => by
            have hB : Below w.heap.size w wx := k4.trans (hx.below k4.size (by simp))
            have hx0 : Kp [] w wx := Kp.of_below hB
            obtain ⟨_, g1, _, _, g4⟩ := Hbox.out wx hB
            have hbx := (hx0.block hb (Array.getElem?_eq_some_iff.1 HD.out.box).1 (by simp)).trans HD.out.box
            have hl2 := (hmap.kp hx0 (by simp)).look map29 zero51 hwy
            simp only [hu, Option.map_some, Option.getD_some, thV] at hl2
            exact ⟨⟨g1, g4⟩, ⟨by simp [World.cell?, hbx, hmp], (Array.getElem?_eq_some_iff.1 hbx).1⟩, ⟨hx.cell hd0 (by simp), Nat.lt_of_lt_of_le hdl hx.size⟩, ⟨hx.cell hc1 (by simp), Nat.lt_of_lt_of_le hbt hx.size⟩, hl2⟩
          clear hmap hyk hwy hc1
          go_upto_region 15 with fail
          refine region_any (C := fun wx => Kp [] wr wx) (by kernel_rfl) ?_
          refine anyIn_read (i := 0) rfl (by kernel_rfl) (by kernel_rfl) (by kernel_rfl) (fun _ _ _ _ h => h) ?_
          apply Exists.intro
          refine ⟨Or.inl ⟨by rfl, fun wx hwx => ?_⟩, ?_⟩
          (go_simp; first | done | with_reducible rfl)
          refine anyIn_read (i := 1) rfl (by kernel_rfl) (by kernel_rfl) (by kernel_rfl) (fun _ _ _ _ h => h) ?_
          apply Exists.intro
          refine ⟨Or.inl ⟨by rfl, fun wx hwx => ?_⟩, ?_⟩
          (go_simp; first | done | with_reducible rfl)
          refine anyIn_read (i := 2) rfl (by kernel_rfl) (by kernel_rfl) (by kernel_rfl) (fun _ _ _ _ h => h) ?_
          apply Exists.intro
          refine ⟨Or.inl ⟨by rfl, fun wx hwx => ?_⟩, ?_⟩
          (go_simp; first | done | with_reducible rfl)
          refine anyIn_read (i := 3) rfl (by kernel_rfl) (by kernel_rfl) (by kernel_rfl) (fun _ _ _ _ h => h) ?_
          apply Exists.intro
          refine ⟨Or.inl ⟨by rfl, fun wx hwx => ?_⟩, ?_⟩
          (obtain ⟨⟨e0, e1⟩, ⟨e2, e3⟩, ⟨e4, e5⟩, ⟨e6, e7⟩, e8⟩ := H15.out wx hwx; go_simp; first | done | with_reducible rfl)
          refine anyIn_read (i := 4) rfl (by kernel_rfl) (by kernel_rfl) (by kernel_rfl) (fun _ _ _ _ h => h) ?_
          apply Exists.intro
          refine ⟨Or.inl ⟨by rfl, fun wx hwx => ?_⟩, ?_⟩
          (go_simp; first | done | with_reducible rfl)
          refine anyIn_read (i := 5) rfl (by kernel_rfl) (by kernel_rfl) (by kernel_rfl) (fun _ _ _ _ h => h) ?_
          apply Exists.intro
          refine ⟨Or.inl ⟨by rfl, fun wx hwx => ?_⟩, ?_⟩
          (go_simp; first | done | with_reducible rfl)
          refine anyIn_read (i := 6) rfl (by kernel_rfl) (by kernel_rfl) (by kernel_rfl) (fun _ _ _ _ h => h) ?_
          apply Exists.intro
          refine ⟨Or.inl ⟨by rfl, fun wx hwx => ?_⟩, ?_⟩
          (obtain ⟨⟨e0, e1⟩, ⟨e2, e3⟩, ⟨e4, e5⟩, ⟨e6, e7⟩, e8⟩ := H15.out wx hwx; go_simp; first | done | with_reducible rfl)
          refine anyIn_read (i := 7) rfl (by kernel_rfl) (by kernel_rfl) (by kernel_rfl) (fun _ _ _ _ h => h) ?_
          apply Exists.intro
          refine ⟨Or.inl ⟨by rfl, fun wx hwx => ?_⟩, ?_⟩
          (obtain ⟨⟨e0, e1⟩, ⟨e2, e3⟩, ⟨e4, e5⟩, ⟨e6, e7⟩, e8⟩ := H15.out wx hwx; go_simp; first | done | with_reducible rfl)
          refine anyIn_read (i := 8) rfl (by kernel_rfl) (by kernel_rfl) (by kernel_rfl) (fun _ _ _ _ h => h) ?_
          apply Exists.intro
          refine ⟨Or.inl ⟨by rfl, fun wx hwx => ?_⟩, ?_⟩
          (go_simp; first | done | with_reducible rfl)
          refine anyIn_read (i := 9) rfl (by kernel_rfl) (by kernel_rfl) (by kernel_rfl) (fun _ _ _ _ h => h) ?_
          apply Exists.intro
          refine ⟨Or.inl ⟨by rfl, fun wx hwx => ?_⟩, ?_⟩
          (obtain ⟨⟨e0, e1⟩, ⟨e2, e3⟩, ⟨e4, e5⟩, ⟨e6, e7⟩, e8⟩ := H15.out wx hwx; go_simp; first | done | with_reducible rfl)
          refine anyIn_read (i := 10) rfl (by kernel_rfl) (by kernel_rfl) (by kernel_rfl) (fun _ _ _ _ h => h) ?_
          apply Exists.intro
          refine ⟨Or.inl ⟨by rfl, fun wx hwx => ?_⟩, ?_⟩
          (obtain ⟨⟨e0, e1⟩, ⟨e2, e3⟩, ⟨e4, e5⟩, ⟨e6, e7⟩, e8⟩ := H15.out wx hwx; go_simp; first | done | with_reducible rfl)
          refine anyIn_read (i := 11) rfl (by kernel_rfl) (by kernel_rfl) (by kernel_rfl) (fun _ _ _ _ h => h) ?_
          apply Exists.intro
          refine ⟨Or.inl ⟨by rfl, fun wx hwx => ?_⟩, ?_⟩
          (obtain ⟨⟨e0, e1⟩, ⟨e2, e3⟩, ⟨e4, e5⟩, ⟨e6, e7⟩, e8⟩ := H15.out wx hwx; go_simp; first | done | with_reducible rfl)
          refine anyIn_read (i := 12) rfl (by kernel_rfl) (by kernel_rfl) (by kernel_rfl) (fun _ _ _ _ h => h) ?_
          apply Exists.intro
          refine ⟨Or.inl ⟨by rfl, fun wx hwx => ?_⟩, ?_⟩
          (obtain ⟨⟨e0, e1⟩, ⟨e2, e3⟩, ⟨e4, e5⟩, ⟨e6, e7⟩, e8⟩ := H15.out wx hwx; go_simp; first | done | with_reducible rfl)
          refine anyIn_one (i := 13) ((Kp.refl _ _).drew) rfl (by kernel_rfl) (fun K hK => ?_)
          go_simp
          refine hK _ _ ?_
          clear hK K
          refine anyIn_one (i := 14) ((Kp.alloc _ _ _).drew) rfl (by kernel_rfl) (fun K hK => ?_)
          go_simp
          refine hK _ _ ?_
          clear hK K
          have K7 : Hid (Kp [] wr ((wr.alloc (.cells #[.int .i64 u.kind, .int .i64 u.tag, .slice (qd y) u.fs.length u.fs.length] 52)).drew)) := (Kp.alloc _ _ _).drew
          refine anyIn_done K7.out (by kernel_rfl) ?_
          have C7 : Hid ((((wr.alloc (.cells #[.int .i64 u.kind, .int .i64 u.tag, .slice (qd y) u.fs.length u.fs.length] 52)).drew)).heap[wr.heap.size]? = some (.cells #[.int .i64 u.kind, .int .i64 u.tag, .slice (qd y) u.fs.length u.fs.length] 52)) := alloc_get wr _
          have L7 : Hid (PS ((wr.alloc (.cells #[.int .i64 u.kind, .int .i64 u.tag, .slice (qd y) u.fs.length u.fs.length] 52)).drew) tb kb db w.heap.size km base w.heap.size (.slice (some ⟨bt, 0, none⟩) T.length cv) T ∧ (∀ p ∈ T, R p.1 p.2) ∧ T.Nodup ∧ Below w.heap.size w ((wr.alloc (.cells #[.int .i64 u.kind, .int .i64 u.tag, .slice (qd y) u.fs.length u.fs.length] 52)).drew)) := ⟨k1.grown K7.out, k2, k3, k4.trans (K7.out.below k4.size (by simp))⟩
          have Hbc : Hid (base ≤ wr.heap.size) := k1.le
          clear K7 H15 hrow k1 k2 k3 k4 HL hd0 hdl hc0 hbt
          generalize ((wr.alloc (.cells #[.int .i64 u.kind, .int .i64 u.tag, .slice (qd y) u.fs.length u.fs.length] 52)).drew) = w7 at C7 L7 ⊢
          generalize wr.heap.size = c at C7 Hbc ⊢
          go_simp
          have Hth : Hid (ThIso R t u) := hth
          have Hlen : Hid (t.fs.length = u.fs.length) := hth.fs.len
          have H16 : Hid (∀ wx, Kp [] w7 wx → (wx.cell? ⟨wb, 0, none⟩ = some hv ∧ wb < wx.heap.size) ∧ wx.cell? ⟨c, 0, none⟩ = some (.int .i64 u.kind) ∧ wx.cell? ⟨c, 1, none⟩ = some (.int .i64 u.tag) ∧ wx.cell? ⟨c, 2, none⟩ = some (.slice (qd y) u.fs.length u.fs.length) ∧ c < wx.heap.size) := fun wx hx => by
            have hB : Below w.heap.size w wx := L7.out.2.2.2.trans (hx.below L7.out.2.2.2.size (by simp))
            obtain ⟨g0, _, _, _, g4⟩ := Hbox.out wx hB
            have h1 := (hx.block c (Array.getElem?_eq_some_iff.1 C7.out).1 (by simp)).trans C7.out
            exact ⟨⟨g0, g4⟩, by simp only [World.cell?, h1]; rfl, by simp only [World.cell?, h1]; rfl, by simp only [World.cell?, h1]; rfl, (Array.getElem?_eq_some_iff.1 h1).1⟩
          have HBx : Hid (∀ wx, Kp [] w7 wx → Below w.heap.size w wx) := fun wx hx => L7.out.2.2.2.trans (hx.below L7.out.2.2.2.size (by simp))
          have HKd : Hid (∀ wx, Kp [] w7 wx → Calls Try.prog 17 #[hv, .int .i64 x] wx fun e w' => e = .returned (.int .i64 u.kind) ∧ Kp [] w7 w') := fun wx hx => Calls.mono (HG.out.kind wx (HBx.out wx hx) x t ht) (fun e w' h => ⟨by rw [h.1, hth.kind], hx.trans (Kp.of_below h.2)⟩)
          have HTg : Hid (∀ wx, Kp [] w7 wx → Calls Try.prog 18 #[hv, .int .i64 x] wx fun e w' => e = .returned (.int .i64 u.tag) ∧ Kp [] w7 w') := fun wx hx => Calls.mono (HG.out.tag wx (HBx.out wx hx) x t ht) (fun e w' h => ⟨by rw [h.1, hth.tag], hx.trans (Kp.of_below h.2)⟩)
          have HLn : Hid (∀ wx, Kp [] w7 wx → Calls Try.prog 19 #[hv, .int .i64 x] wx fun e w' => e = .returned (.int .i64 (u.fs.length : Nat)) ∧ Kp [] w7 w') := fun wx hx => Calls.mono (HG.out.len wx (HBx.out wx hx) x t ht) (fun e w' h => ⟨by rw [h.1, hth.fs.len], hx.trans (Kp.of_below h.2)⟩)
          clear hth
          go_upto_region 16 with fail
          refine region_in (C := fun wx => Kp [] w7 wx) (by kernel_rfl) (by kernel_rfl) ((Kp.refl _ _).drew) ?_
          repeat
            refine wpQuiet_step (fun K hK => ?_)
            first
              | (go_simp; refine hK _ ?_; clear hK K)
              | (rw [if_pos (by rfl)]; apply Exists.intro; refine ⟨fun wx hwx => ?_, hK _ ?_⟩; (obtain ⟨⟨e0, e1⟩, e2, e3, e4, e5⟩ := H16.out wx hwx; unfold Oper.quietAt; go_simp; first | done | rfl | exact ⟨rfl, rfl⟩ | exact HKd.out _ hwx | exact HTg.out _ hwx | exact HLn.out _ hwx); clear hK K; go_simp)
          refine wpQuiet_nil ?_
          intro w9 hw9
          have hC9 : w9.heap[c]? = some (.cells #[.int .i64 u.kind, .int .i64 u.tag, .slice (qd y) u.fs.length u.fs.length] 52) := (hw9.block c (Array.getElem?_eq_some_iff.1 C7.out).1 (by simp)).trans C7.out
          have HL9 : Hid (k < T.length ∧ PS w9 tb kb db w.heap.size km base w.heap.size (.slice (some ⟨bt, 0, none⟩) T.length cv) T ∧ (∀ p ∈ T, R p.1 p.2) ∧ T.Nodup ∧ Below w.heap.size w w9 ∧ w9.heap[c]? = some (.cells #[.int .i64 u.kind, .int .i64 u.tag, .slice (qd y) u.fs.length u.fs.length] 52)) := ⟨hk, L7.out.1.grown hw9, L7.out.2.1, L7.out.2.2.1, HBx.out w9 hw9, hC9⟩
          have Hkl : Hid (k < ks.length) := by have := hTl; unfold Hid; omega
          have Hur : Hid (RowC w (qd y) u.fs) := urow
          have Huw : Hid (∀ c ∈ u.fs, wfC c) := uwf
          have Hul : Hid (u.fs.length ≤ maxLen) := urow.len
          have Hget0 : Hid (∀ wx, Below w.heap.size w wx → ∀ i (hi : i < t.fs.length), Calls Try.prog 14 #[hv, .int .i64 x, .int .i64 (i : Nat)] wx fun e w' => e = .returned (t.fs[i]'hi).val ∧ Below wx.heap.size wx w') := fun wx hx i hi => HG.out.get wx hx x t ht i hi
          have Htw : Hid (∀ c ∈ t.fs, wfC c) := HwP.out x t ht
          clear hw9 hC9 H16 HKd HTg HLn L7 C7 HBx hk hk' hk1 hTl urow uwf unil ht hu hRk hwN
          go_wp2_with fail
          go_loopg [12] (u.fs.length) (fun g iv wr => ∃ (i : Nat) (T : Prs) (v : Value), iv = .int .i64 (i : Nat) ∧ i ≤ u.fs.length ∧ g = u.fs.length - i ∧ Hid (k < T.length ∧ PS wr tb kb db w.heap.size km base w.heap.size v T ∧ (∀ p ∈ T, R p.1 p.2) ∧ T.Nodup ∧ Below w.heap.size w wr ∧ wr.heap[c]? = some (.cells #[.int .i64 u.kind, .int .i64 u.tag, .slice (qd y) u.fs.length u.fs.length] 52)))
          case atStart => exact ⟨0, T, _, rfl, by omega, by omega, HL9.out⟩
          case round =>
            clear HL9
            obtain ⟨i, T, v, rfl, hi1, rfl, HL⟩ := hrel
            have hcl : wr.cell? ⟨c, 2, none⟩ = some (.slice (qd y) u.fs.length u.fs.length) ∧ c < wr.heap.size := ⟨by simp only [World.cell?, HL.out.2.2.2.2.2]; rfl, (Array.getElem?_eq_some_iff.1 HL.out.2.2.2.2.2).1⟩
            obtain ⟨hc2, hcl⟩ := hcl
            by_cases hi : i < u.fs.length
            · have hi' : (i : Int) < (u.fs.length : Nat) := by omega
              have hit : i < t.fs.length := by have := Hlen.out; omega
              have hwN : IntKind.i64.wrap ((i : Int) + 1) = (i : Int) + 1 := by rw [IntKind.wrap_i64]; have := Hul.out; unfold maxLen at this; omega
              obtain ⟨b, o, hq, hc⟩ : ∃ b o, qd y = some ⟨b, o, none⟩ ∧ ∀ wx, Below w.heap.size w wx → wx.cell? ⟨b, o + i * 2, none⟩ = some (.bool (u.fs[i]'hi).p) ∧ wx.cell? ⟨b, o + i * 2 + 1, none⟩ = some (.int .i64 (u.fs[i]'hi).n) ∧ b < wx.heap.size := by
                obtain ⟨b, o, e1, c1, c2⟩ := Hur.out.get i hi
                refine ⟨b, o, e1, fun wx hx => ?_⟩
                have hk : Kp [] w wx := Kp.of_below hx
                exact ⟨hk.cell c1 (by simp), hk.cell c2 (by simp), Nat.lt_of_lt_of_le (World.block_lt_of_cell? _ _ c1) hk.size⟩
              have hC := Hth.out.fs.at_ i hit hi
              have hwa := Htw.out _ (List.getElem_mem hit)
              have hwb := Huw.out _ (List.getElem_mem hi)
              have Hget : Hid (∀ wx, Below w.heap.size w wx → Calls Try.prog 14 #[hv, .int .i64 x, .int .i64 (i : Nat)] wx fun e w' => e = .returned (t.fs[i]'hit).val ∧ Below wx.heap.size wx w') := fun wx hx => Hget0.out wx hx i hit
              have Hc : Hid _ := hc
              have Hth2 : Hid (∀ wx : World, wx.heap[c]? = some (.cells #[.int .i64 u.kind, .int .i64 u.tag, .slice (qd y) u.fs.length u.fs.length] 52) → wx.cell? ⟨c, 2, none⟩ = some (.slice (qd y) u.fs.length u.fs.length) ∧ c < wx.heap.size) := fun wx hx => ⟨by simp only [World.cell?, hx]; rfl, (Array.getElem?_eq_some_iff.1 hx).1⟩
              rw [hq] at hc2
              have Hth3 : Hid (∀ wx : World, wx.heap[c]? = some (.cells #[.int .i64 u.kind, .int .i64 u.tag, .slice (qd y) u.fs.length u.fs.length] 52) → wx.cell? ⟨c, 2, none⟩ = some (.slice (some ⟨b, o, none⟩) u.fs.length u.fs.length) ∧ c < wx.heap.size) := fun wx hx => by have := Hth2.out wx hx; rw [hq] at this; exact this
              clear hc hq Hth2
              generalize t.fs[i]'hit = cx at *
              generalize u.fs[i]'hi = cy at *
              have Hpair : Hid (∀ wx T v, k < T.length → PS wx tb kb db w.heap.size km base w.heap.size v T → (∀ p ∈ T, R p.1 p.2) → T.Nodup → Below w.heap.size w wx → wx.heap[c]? = some (.cells #[.int .i64 u.kind, .int .i64 u.tag, .slice (qd y) u.fs.length u.fs.length] 52) → Calls Try.prog 16 #[cx.val, cy.val, .pointer (some ⟨tb, 0, none⟩), .pointer (some ⟨kb, 0, none⟩), .pointer (some ⟨db, 0, none⟩)] wx fun e w' => e = .returned (.bool true) ∧ ∃ v T, k < T.length ∧ PS w' tb kb db w.heap.size km base w.heap.size v T ∧ (∀ p ∈ T, R p.1 p.2) ∧ T.Nodup ∧ Below w.heap.size w w' ∧ w'.heap[c]? = some (.cells #[.int .i64 u.kind, .int .i64 u.tag, .slice (qd y) u.fs.length u.fs.length] 52)) := fun wx T v h0 h1 h2 h3 h4 h5 => by
                refine Calls.mono (pair_any wx R HI.out.one tb kb db w.heap.size km base w.heap.size v T h1 h4.size h2 h3 (by have := HT.out T h2 h3; omega) cx cy hwa hwb hC) ?_
                rintro e w' ⟨T2, v', rfl, g1, g2, g3, g4, g5, g6⟩
                exact ⟨rfl, v', T ++ T2, by simp; omega, g1, g3, g4, h4.trans g5, h1.thing g6 h5 Hbc.out⟩
              clear hC hwa hwb
              obtain ⟨xp, xn⟩ := cx
              obtain ⟨yp, yn⟩ := cy
              simp only [Cl.val] at Hpair Hget
              simp only at Hc
              go_upto_region 21 with fail
              refine region_any (C := fun wx : World => Below w.heap.size w wx ∧ wx.heap[c]? = some (.cells #[.int .i64 u.kind, .int .i64 u.tag, .slice (qd y) u.fs.length u.fs.length] 52)) (by kernel_rfl) ?_
              refine anyIn_read (i := 0) rfl (by kernel_rfl) (by kernel_rfl) (by kernel_rfl) (fun _ _ _ _ h => h) ?_
              apply Exists.intro
              refine ⟨Or.inl ⟨by rfl, fun wx hwx => ?_⟩, ?_⟩
              (go_simp; first | done | with_reducible rfl)
              refine anyIn_read (i := 1) rfl (by kernel_rfl) (by kernel_rfl) (by kernel_rfl) (fun _ _ _ _ h => h) ?_
              apply Exists.intro
              refine ⟨Or.inl ⟨by rfl, fun wx hwx => ?_⟩, ?_⟩
              (go_simp; first | done | with_reducible rfl)
              refine anyIn_read (i := 2) rfl (by kernel_rfl) (by kernel_rfl) (by kernel_rfl) (fun _ _ _ _ h => h) ?_
              apply Exists.intro
              refine ⟨Or.inl ⟨by rfl, fun wx hwx => ?_⟩, ?_⟩
              (go_simp; first | done | with_reducible rfl)
              refine anyIn_read (i := 3) rfl (by kernel_rfl) (by kernel_rfl) (by kernel_rfl) (fun _ _ _ _ h => h) ?_
              apply Exists.intro
              refine ⟨Or.inl ⟨by rfl, fun wx hwx => ?_⟩, ?_⟩
              (go_simp; first | done | with_reducible rfl)
              refine anyIn_read (i := 4) rfl (by kernel_rfl) (by kernel_rfl) (by kernel_rfl) (fun _ _ _ _ h => h) ?_
              apply Exists.intro
              refine ⟨Or.inl ⟨by rfl, fun wx hwx => ?_⟩, ?_⟩
              (obtain ⟨f0, f1, f2, f3, f4⟩ := Hbox.out wx hwx.1; obtain ⟨h0, h1⟩ := Hth3.out wx hwx.2; obtain ⟨g3, g4, g5⟩ := Hc.out wx hwx.1; go_simp; first | done | with_reducible rfl)
              refine anyIn_read (i := 5) rfl (by kernel_rfl) (by kernel_rfl) (by kernel_rfl) (fun _ _ _ _ h => h) ?_
              apply Exists.intro
              refine ⟨Or.inl ⟨by rfl, fun wx hwx => ?_⟩, ?_⟩
              (go_simp; first | done | with_reducible rfl)
              refine anyIn_read (i := 6) rfl (by kernel_rfl) (by kernel_rfl) (by kernel_rfl) (fun _ _ _ _ h => h) ?_
              apply Exists.intro
              refine ⟨Or.inl ⟨by rfl, fun wx hwx => ?_⟩, ?_⟩
              (go_simp; first | done | with_reducible rfl)
              refine anyIn_read (i := 8) rfl (by kernel_rfl) (by kernel_rfl) (by kernel_rfl) (fun _ _ _ _ h => h) ?_
              apply Exists.intro
              refine ⟨Or.inl ⟨by rfl, fun wx hwx => ?_⟩, ?_⟩
              (go_simp; first | done | with_reducible rfl)
              refine anyIn_read (i := 9) rfl (by kernel_rfl) (by kernel_rfl) (by kernel_rfl) (fun _ _ _ _ h => h) ?_
              apply Exists.intro
              refine ⟨Or.inl ⟨by rfl, fun wx hwx => ?_⟩, ?_⟩
              (obtain ⟨f0, f1, f2, f3, f4⟩ := Hbox.out wx hwx.1; obtain ⟨h0, h1⟩ := Hth3.out wx hwx.2; obtain ⟨g3, g4, g5⟩ := Hc.out wx hwx.1; go_simp; first | done | with_reducible rfl)
              refine anyIn_read (i := 10) rfl (by kernel_rfl) (by kernel_rfl) (by kernel_rfl) (fun _ _ _ _ h => h) ?_
              apply Exists.intro
              refine ⟨Or.inl ⟨by rfl, fun wx hwx => ?_⟩, ?_⟩
              (go_simp; first | done | with_reducible rfl)
              refine anyIn_read (i := 11) rfl (by kernel_rfl) (by kernel_rfl) (by kernel_rfl) (fun _ _ _ _ h => h) ?_
              apply Exists.intro
              refine ⟨Or.inl ⟨by rfl, fun wx hwx => ?_⟩, ?_⟩
              (obtain ⟨f0, f1, f2, f3, f4⟩ := Hbox.out wx hwx.1; obtain ⟨h0, h1⟩ := Hth3.out wx hwx.2; obtain ⟨g3, g4, g5⟩ := Hc.out wx hwx.1; go_simp; first | done | with_reducible rfl)
              refine anyIn_read (i := 12) rfl (by kernel_rfl) (by kernel_rfl) (by kernel_rfl) (fun _ _ _ _ h => h) ?_
              apply Exists.intro
              refine ⟨Or.inl ⟨by rfl, fun wx hwx => ?_⟩, ?_⟩
              (obtain ⟨f0, f1, f2, f3, f4⟩ := Hbox.out wx hwx.1; obtain ⟨h0, h1⟩ := Hth3.out wx hwx.2; obtain ⟨g3, g4, g5⟩ := Hc.out wx hwx.1; go_simp; first | done | with_reducible rfl)
              have hCd : Below w.heap.size w wr.drew ∧ wr.drew.heap[c]? = some (.cells #[.int .i64 u.kind, .int .i64 u.tag, .slice (qd y) u.fs.length u.fs.length] 52) := ⟨HL.out.2.2.2.2.1.drew, HL.out.2.2.2.2.2⟩
              refine anyIn_one (i := 7) hCd rfl (by kernel_rfl) (fun K hK => ?_)
              go_simp
              refine Calls.mono (Hget.out _ hCd.1) ?_
              rintro e w6 ⟨rfl, g6⟩
              refine hK _ _ ?_
              clear hK K
              have hK6 : Kp [] wr w6 := ((Kp.refl _ _).drew).trans (Kp.of_below g6)
              have HL6 : Hid (k < T.length ∧ PS w6 tb kb db w.heap.size km base w.heap.size v T ∧ (∀ p ∈ T, R p.1 p.2) ∧ T.Nodup ∧ Below w.heap.size w w6 ∧ w6.heap[c]? = some (.cells #[.int .i64 u.kind, .int .i64 u.tag, .slice (qd y) u.fs.length u.fs.length] 52)) := ⟨HL.out.1, HL.out.2.1.grown hK6, HL.out.2.2.1, HL.out.2.2.2.1, HL.out.2.2.2.2.1.trans (hK6.below HL.out.2.2.2.2.1.size (by simp)), (hK6.block c (Array.getElem?_eq_some_iff.1 HL.out.2.2.2.2.2).1 (by simp)).trans HL.out.2.2.2.2.2⟩
              clear g6 hK6 hCd
              refine anyIn_one (i := 13) HL6.out.2.2.2.2 rfl (by kernel_rfl) (fun K hK => ?_)
              go_simp
              refine Calls.mono (Hpair.out _ T v HL6.out.1 HL6.out.2.1 HL6.out.2.2.1 HL6.out.2.2.2.1 HL6.out.2.2.2.2.1 HL6.out.2.2.2.2.2) ?_
              rintro e w7 ⟨rfl, v7, T7, g0, g1, g2, g3, g4, g5⟩
              refine hK _ _ ?_
              clear hK K
              have HL7 : Hid (k < T7.length ∧ PS w7 tb kb db w.heap.size km base w.heap.size v7 T7 ∧ (∀ p ∈ T7, R p.1 p.2) ∧ T7.Nodup ∧ Below w.heap.size w w7 ∧ w7.heap[c]? = some (.cells #[.int .i64 u.kind, .int .i64 u.tag, .slice (qd y) u.fs.length u.fs.length] 52)) := ⟨g0, g1, g2, g3, g4, g5⟩
              clear g0 g1 g2 g3 g4 g5
              refine anyIn_one (i := 14) HL7.out.2.2.2.2 rfl (by kernel_rfl) (fun K hK => ?_)
              go_simp
              refine hK _ _ ?_
              clear hK K
              refine anyIn_done HL7.out.2.2.2.2 (by kernel_rfl) ?_
              go_simp
              clear Hpair Hget Hc HL HL6 Hth3 hc2 hcl
              go_wp2
              go_roundg (u.fs.length - (i + 1))
              case measure => omega
              case rel => exact ⟨i + 1, T7, v7, by first | rfl | (congr 1; omega) | go_num, by omega, rfl, HL7.out⟩
            · have hi' : ¬ ((i : Int) < (u.fs.length : Nat)) := by omega
              have hwN : IntKind.i64.wrap ((k : Int) + 1) = (k : Int) + 1 := by rw [IntKind.wrap_i64]; have := Hkl.out; omega
              have HQ : Hid (k < T.length ∧ PS wr tb kb db w.heap.size km base w.heap.size v T ∧ (∀ p ∈ T, R p.1 p.2) ∧ T.Nodup ∧ Below w.heap.size w wr) := ⟨HL.out.1, HL.out.2.1, HL.out.2.2.1, HL.out.2.2.2.1, HL.out.2.2.2.2.1⟩
              clear HL
              go_wp2
              go_roundg (ks.length - (k + 1))
              case measure => have := Hkl.out; omega
              case rel => exact ⟨k + 1, T, v, by first | rfl | (congr 1; omega) | go_num, HQ.out.1, rfl, HQ.out.2⟩
        · have hk' : ¬ ((k : Int) < (T.length : Nat)) := by omega
          have Q : Hid (Below w.heap.size w wr) := k4
          clear hrow k1 k2 k3 k4 HL
          go_wp2
          exact bodyPost_ret (by simp [results, Try.results6, go_sem]) rfl ⟨rfl, Q.out⟩
end
end Go.Proofs.Ytfeopoamednidaa
