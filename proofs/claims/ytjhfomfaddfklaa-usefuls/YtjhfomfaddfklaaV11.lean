/-
  The program's layer matches: what a line asks for behind a head (behind).
-/
import Derived.Test.YtjhfomfaddfklaaV10
namespace Go.Proofs.Ytjhfomfaddfklaa
open Go.RowKit Go.Deep Go.Shelf
/-- What a line asks for behind a head; none: it falls out. -/
def behindL (l : List Pt) (h : Hd) : Option (List Pt) := if l = [] then some [] else match firstL l with
  | none => some (l.dropLast ++ List.replicate h.m Pt.any)
  | some x => if Hd.eqb (hdOf x) h = true then some (trimL (l.dropLast ++ (bareP x).kids.reverse)) else none
theorem firstL_some {l : List Pt} {x : Pt} (h : firstL l = some x) : x ∈ l ∧ (bareP x).k ≠ 0 := by
  unfold firstL at h
  cases hl : l.getLast? with
  | none => rw [hl] at h; cases h
  | some y =>
    rw [hl] at h
    simp only at h
    split at h
    · cases h
    · rename_i hk
      cases h
      exact ⟨List.mem_of_getLast? hl, hk⟩
inductive BehindPost (wb w : World) (p : Option Addr) (l : List Pt) (h : Hd) (e : Ending) (w' : World) : Prop
  | yes (l' : List Pt) (q : Option Addr) (cap : Nat) (hl : behindL l h = some l') (he : e = .returned (.tuple #[.slice q l'.length cap, .bool true])) (hc : l'.length ≤ cap) (hn : q = none → cap = 0) (hR : LineAt wb w' q l') (hb : Below w.heap.size w w') (hq : l' ≠ [] → ∀ b, q = some b → (∃ a : Addr, p = some a ∧ a.block = b.block) ∨ w.heap.size ≤ b.block) : BehindPost wb w p l h e w'
  | no (hl : behindL l h = none) (he : e = .returned (.tuple #[.slice none 0 0, .bool false])) (hb : Below w.heap.size w w') : BehindPost wb w p l h e w'
/-- Four cells of a head. -/
def HBox (w : World) (b : Nat) (h : Hd) : Prop := w.heap[b]? = some (.cells #[.int .i64 h.k, .int .i64 h.n, .string h.s, .int .i64 h.m] 59)
theorem HBox.lt {w : World} {b : Nat} {h : Hd} (hh : HBox w b h) : b < w.heap.size := (Array.getElem?_eq_some_iff.1 hh).1
theorem HBox.below {w w' : World} {b : Nat} {h : Hd} (hh : HBox w b h) (hb : Below w.heap.size w w') : HBox w' b h := (hb.block b hh.lt).trans hh
theorem HBox.cells {w : World} {b : Nat} {h : Hd} (hh : HBox w b h) : w.cell? ⟨b, 0, none⟩ = some (.int .i64 h.k) ∧ w.cell? ⟨b, 1, none⟩ = some (.int .i64 h.n) ∧ w.cell? ⟨b, 2, none⟩ = some (.string h.s) ∧ w.cell? ⟨b, 3, none⟩ = some (.int .i64 h.m) ∧ b < w.heap.size := by
  have hl := hh.lt
  unfold HBox at hh
  refine ⟨?_, ?_, ?_, ?_, hl⟩ <;> simp [World.cell?, hh]
theorem hbox_new (w : World) (h : Hd) : HBox (w.alloc (.cells #[.int .i64 h.k, .int .i64 h.n, .string h.s, .int .i64 h.m] 59)) w.heap.size h := (MapKept.heap_alloc w _).1
section
set_option maxHeartbeats 8000000
set_option maxRecDepth 100000
/-- The line without its first pattern lies where the line lies. -/
inductive Restl2 (wb w : World) (p : Option Addr) (l : List Pt) (e : Ending) (w' : World) : Prop
  | mk (cap : Nat) (he : e = .returned (.slice p l.dropLast.length cap)) (hc : l.dropLast.length ≤ cap) (hf : l ≠ [] → cap = l.dropLast.length) (hn : p = none → cap = 0) (hR : LineAt wb w p l.dropLast) (hw : w' = w) : Restl2 wb w p l e w'
theorem restl_any2 (wb w : World) (p : Option Addr) (cap : Nat) (l : List Pt) (hp : LineAt wb w p l) (hcap : l.length ≤ cap) (hpn : p = none → cap = 0) : Calls Try.prog 32 #[.slice p l.length cap] w fun e w' => Restl2 wb w p l e w' := by
  by_cases h0 : l.length = 0
  · have hl : l = [] := List.eq_nil_of_length_eq_zero h0
    subst hl
    have Q : Hid (Restl2 wb w p [] (.returned (.slice p 0 cap)) w) := Restl2.mk cap rfl (Nat.zero_le _) (fun h => absurd rfl h) hpn (LineAt.nil _ _ _) rfl
    have Hcall : Hid _ := matchesAll_any w p 0 cap
    clear hp h0 hpn
    simp only [List.length_nil] at *
    go_enter Try.func32, Try.ntmps32
    go_wp2_with fail
    refine Calls.mono Hcall.out ?_
    rintro e1 w1 ⟨rfl, rfl⟩
    go_wp2
    go_ret
    exact Q.out
  · obtain ⟨b, o, v, rfl, hc, hv⟩ := hp.get (l.length - 1) (by omega)
    obtain ⟨n, hn⟩ : ∃ n, l.length = n + 1 := ⟨l.length - 1, by omega⟩
    have hm := hp.len
    unfold maxLen at hm
    have hbl := World.block_lt_of_cell? _ _ hc
    have hdl : l.dropLast.length = n := by simp [hn]
    have Q : Hid (Restl2 wb w (some ⟨b, o, none⟩) l (.returned (.slice (some ⟨b, o, none⟩) n n)) w) := by
      refine Restl2.mk n (by rw [hdl]) (by omega) (fun _ => hdl.symm) (fun h => by cases h) ⟨by unfold maxLen; omega, fun i hi => ?_⟩ rfl
      obtain ⟨b', o', v', h1, h2, h3⟩ := hp.get i (by simp at hi; omega)
      exact ⟨b', o', v', h1, h2, by simpa using h3⟩
    have Hcall : Hid _ := matchesAll_any w (some ⟨b, o, none⟩) l.length cap
    rw [hn] at Hcall hcap ⊢
    have hz : decide (n + 1 = 0) = false := by simp
    rw [hz] at Hcall
    have hwr : IntKind.i64.wrap ((n + 1 : Nat) - 1 : Int) = n := by rw [IntKind.wrap_i64]; omega
    have h1 : (n : Int) ≤ (cap : Int) := by omega
    clear hp hv h0 hz hc hdl hpn
    go_enter Try.func32, Try.ntmps32
    go_wp2_with fail
    refine Calls.mono Hcall.out ?_
    rintro e1 w1 ⟨rfl, rfl⟩
    clear Hcall
    go_wp2
    go_ret
    exact Q.out
theorem behind_any (wb w : World) (p : Option Addr) (cap : Nat) (l : List Pt) (h : Hd) (hw : Below wb.heap.size wb w) (hp : LineAt wb w p l) (hcap : l.length ≤ cap) (hpn : p = none → cap = 0) (hl : l.length ≤ 300000) (hm : h.m ≤ 1000) (hg : ∀ x ∈ l, x.good = true) :
    Calls Try.prog 42 #[.slice p l.length cap, h.val] w fun e w' => BehindPost wb w p l h e w' := by
  have hbx := hbox_new w h
  have hba : Below w.heap.size w (w.alloc (.cells #[.int .i64 h.k, .int .i64 h.n, .string h.s, .int .i64 h.m] 59)) := (Below.refl _ _).alloc (Nat.le_refl _) _
  have hwa : Below wb.heap.size wb (w.alloc (.cells #[.int .i64 h.k, .int .i64 h.n, .string h.s, .int .i64 h.m] 59)) := hw.trans (hba.mono hw.size)
  have hpa := hp.below hba
  obtain ⟨k, n, s, m⟩ := h
  simp only [Hd.val] at *
  by_cases h0 : l = []
  · subst h0
    have Q : Hid (BehindPost wb w p [] ⟨k, n, s, m⟩ (.returned (.tuple #[.slice p 0 cap, .bool true])) (w.alloc (.cells #[.int .i64 k, .int .i64 n, .string s, .int .i64 m] 59))) := BehindPost.yes [] p cap rfl rfl hcap hpn (LineAt.nil _ _ _) hba (fun h => absurd rfl h)
    have Hcall : Hid _ := matchesAll_any (w.alloc (.cells #[.int .i64 k, .int .i64 n, .string s, .int .i64 m] 59)) p 0 cap
    clear hbx hba hwa hpa hp hw hpn hg
    simp only [List.length_nil] at *
    go_enter Try.func42, Try.ntmps42
    go_wp2_with fail
    refine Calls.mono Hcall.out ?_
    rintro e1 w1 ⟨rfl, rfl⟩
    clear Hcall
    go_wp2
    exact bodyPost_ret (by simp [results, Try.results42, go_sem]) rfl Q.out
  · have hl0 : ¬ l.length = 0 := fun e => h0 (List.eq_nil_of_length_eq_zero e)
    have Hcall1 : Hid _ := matchesAll_any (w.alloc (.cells #[.int .i64 k, .int .i64 n, .string s, .int .i64 m] 59)) p l.length cap
    rw [decide_eq_false hl0] at Hcall1
    have Hcall2 : Hid _ := first_any wb (w.alloc (.cells #[.int .i64 k, .int .i64 n, .string s, .int .i64 m] 59)) p cap l hpa
    have Hrest : Hid (∀ wx, Below (w.alloc (.cells #[.int .i64 k, .int .i64 n, .string s, .int .i64 m] 59)).heap.size (w.alloc (.cells #[.int .i64 k, .int .i64 n, .string s, .int .i64 m] 59)) wx → Calls Try.prog 32 #[.slice p l.length cap] wx fun e w' => Restl2 wb wx p l e w') := fun wx hx => restl_any2 wb wx p cap l (hpa.below hx) hcap hpn
    have Hcls : Hid (∀ wx, Below (w.alloc (.cells #[.int .i64 k, .int .i64 n, .string s, .int .i64 m] 59)).heap.size (w.alloc (.cells #[.int .i64 k, .int .i64 n, .string s, .int .i64 m] 59)) wx → wx.cell? ⟨w.heap.size, 0, none⟩ = some (.int .i64 k) ∧ wx.cell? ⟨w.heap.size, 1, none⟩ = some (.int .i64 n) ∧ wx.cell? ⟨w.heap.size, 2, none⟩ = some (.string s) ∧ wx.cell? ⟨w.heap.size, 3, none⟩ = some (.int .i64 m) ∧ w.heap.size < wx.heap.size) := fun wx hx => (hbx.below hx).cells
    have Hba : Hid (Below w.heap.size w (w.alloc (.cells #[.int .i64 k, .int .i64 n, .string s, .int .i64 m] 59))) := hba
    have Hwa : Hid (Below wb.heap.size wb (w.alloc (.cells #[.int .i64 k, .int .i64 n, .string s, .int .i64 m] 59))) := hwa
    have Hg : Hid (∀ x ∈ l, x.good = true) := hg
    have hdl : l.dropLast.length + 1 = l.length := by rw [List.length_dropLast]; omega
    clear hbx hba hwa hpa hp hw hpn hg hl0
    go_enter Try.func42, Try.ntmps42
    go_wp2_with fail
    generalize w.alloc (.cells #[.int .i64 k, .int .i64 n, .string s, .int .i64 m] 59) = W1 at *
    refine Calls.mono Hcall1.out ?_
    rintro e1 w1 ⟨rfl, rfl⟩
    clear Hcall1
    go_wp2_with fail
    refine Calls.mono Hcall2.out ?_
    clear Hcall2
    rintro e2 w2 (⟨rfl, rfl, hf⟩ | ⟨b, x, rfl, rfl, hf, hx⟩)
    · go_upto_region 5 with fail
      have hCd : Below w2.heap.size w2 w2.drew := (Below.refl _ _).drew
      refine region_any (C := fun wx => Below w2.heap.size w2 wx) (by kernel_rfl) ?_
      refine anyIn_read (i := 0) rfl (by kernel_rfl) (by kernel_rfl) (by kernel_rfl) (fun _ _ _ _ h => h) ?_
      apply Exists.intro
      refine ⟨Or.inl ⟨by rfl, fun wx hwx => ?_⟩, ?_⟩
      (go_simp; first | done | with_reducible rfl)
      refine anyIn_read (i := 2) rfl (by kernel_rfl) (by kernel_rfl) (by kernel_rfl) (fun _ _ _ _ h => h) ?_
      apply Exists.intro
      refine ⟨Or.inl ⟨by rfl, fun wx hwx => ?_⟩, ?_⟩
      (go_simp; first | done | with_reducible rfl)
      refine anyIn_read (i := 3) rfl (by kernel_rfl) (by kernel_rfl) (by kernel_rfl) (fun _ _ _ _ h => h) ?_
      apply Exists.intro
      refine ⟨Or.inl ⟨by rfl, fun wx hwx => ?_⟩, ?_⟩
      (obtain ⟨f0, f1, f2, f3, f4⟩ := Hcls.out wx hwx; go_simp; first | done | with_reducible rfl)
      refine anyIn_one (i := 1) hCd rfl (by kernel_rfl) (fun K hK => ?_)
      go_simp
      refine Calls.mono (Hrest.out _ hCd) ?_
      rintro e9 w3 ⟨qc, rfl, hqc, hqf, hqn, hqR, rfl⟩
      refine hK _ _ ?_
      clear hK K
      obtain rfl : qc = l.dropLast.length := hqf h0
      obtain ⟨v, w4, hrun, q4, c4, rfl, hc4, hn4, hR4, hb4, hq4⟩ := run_append_anys hqR hqn m (by omega) 41
      refine anyIn_one (i := 4) hCd rfl (by kernel_rfl) (fun K hK => ?_)
      rw [if_pos (by rfl)]
      refine Lib.wp_append_run _ (Operand.tmp 16) (Operand.tmp 18) 41 3 rfl _ _ rfl rfl _ _ hrun ?_
      refine hK _ _ ?_
      clear hK K hrun
      have hC4 : Below w2.heap.size w2 w4 := Below.then hCd hb4 (Nat.le_refl _)
      have Q : Hid (BehindPost wb w p l ⟨k, n, s, m⟩ (.returned (.tuple #[.slice q4 (l.dropLast ++ List.replicate m Pt.any).length c4, .bool true])) w4) := BehindPost.yes _ q4 c4 (by unfold behindL; rw [if_neg h0, hf]) rfl hc4 hn4 hR4 (Below.trans Hba.out (hC4.mono Hba.out.size)) (fun _ b hb => by
        have hs0 := Hba.out.size
        rcases hq4 with rfl | rfl
        · exact Or.inl ⟨b, hb, rfl⟩
        · cases hb
          exact Or.inr hs0)
      refine anyIn_read (i := 5) rfl (by kernel_rfl) (by kernel_rfl) (by kernel_rfl) (fun _ _ _ _ h => h) ?_
      apply Exists.intro
      refine ⟨Or.inl ⟨by rfl, fun wx hwx => ?_⟩, ?_⟩
      (go_simp; first | done | with_reducible rfl)
      refine anyIn_read (i := 6) rfl (by kernel_rfl) (by kernel_rfl) (by kernel_rfl) (fun _ _ _ _ h => h) ?_
      apply Exists.intro
      refine ⟨Or.inl ⟨by rfl, fun wx hwx => ?_⟩, ?_⟩
      (go_simp; first | done | with_reducible rfl)
      refine anyIn_done hC4 (by kernel_rfl) ?_
      clear hqR hR4 hb4 Hrest Hcls
      go_wp2
      exact bodyPost_ret (by simp [results, Try.results42, go_sem]) rfl Q.out
    · obtain ⟨hxm, hxk⟩ := firstL_some hf
      have hxg := Hg.out x hxm
      obtain ⟨b', p', cap', hbe, h6, hc6, hz6, hline6⟩ := hx.open_ hxk
      cases hbe
      have hkl := (good_kids (good_bare x hxg)).1
      have Hpart : Hid (∀ wx, Below w2.heap.size w2 wx → wx.cell? ⟨b, 0, none⟩ = some (.int .i64 (bareP x).k) ∧ wx.cell? ⟨b, 1, none⟩ = some (.int .i64 (hnum (bareP x))) ∧ wx.cell? ⟨b, 2, none⟩ = some (.string (htxt (bareP x))) ∧ wx.cell? ⟨b, 3, none⟩ = some (.int .i64 (bareP x).kids.length) ∧ wx.cell? ⟨b, 4, none⟩ = some (.int .i64 (bareP x).o) ∧ wx.cell? ⟨b, 5, none⟩ = some (.slice p' (bareP x).kids.length cap') ∧ b < wx.heap.size) := fun wx hx => by
        have hbw : Below wb.heap.size wb wx := Below.trans Hwa.out (hx.mono Hwa.out.size)
        obtain ⟨a0, a1, a2, a3, a4, a5⟩ := h6.block (hbw.block b h6.lt)
        exact ⟨a0, a1, a2, a3, a4, a5, Nat.lt_of_lt_of_le h6.lt hbw.size⟩
      have Hlk : Hid (LineAt wb wb p' (bareP x).kids.reverse) := hline6
      have HE : Hid (Hd.eqb (hdOf x) ⟨k, n, s, m⟩ = Hd.eqb ⟨(bareP x).k, hnum (bareP x), htxt (bareP x), (bareP x).kids.length⟩ ⟨k, n, s, m⟩) := rfl
      obtain ⟨E, hE⟩ : ∃ E, Hd.eqb ⟨(bareP x).k, hnum (bareP x), htxt (bareP x), (bareP x).kids.length⟩ ⟨k, n, s, m⟩ = E := ⟨_, rfl⟩
      have HEq : Hid (Hd.eqb ⟨(bareP x).k, hnum (bareP x), htxt (bareP x), (bareP x).kids.length⟩ ⟨k, n, s, m⟩ = E) := hE
      rw [hE] at HE
      have Hkr : Hid ((bareP x).kids.reverse.length = (bareP x).kids.length) := by unfold Hid; simp
      have HB : Hid (∀ l', behindL l ⟨k, n, s, m⟩ = l' ↔ (if E = true then some (trimL (l.dropLast ++ (bareP x).kids.reverse)) else none) = l') := fun l' => by
        unfold behindL
        rw [if_neg h0, hf]
        simp only
        rw [HE.out]
      clear hline6 h6 hx hf hxm hxg hE HE Hg
      generalize (bareP x).k = xk at *
      generalize hnum (bareP x) = xn at *
      generalize htxt (bareP x) = xs at *
      generalize (bareP x).kids.length = xm at *
      generalize (bareP x).kids.reverse = kr at *
      go_upto_region 6 with fail
      have hCd : Below w2.heap.size w2 w2.drew := (Below.refl _ _).drew
      cases E with
      | false =>
        have Q : Hid (∀ w', Below w2.heap.size w2 w' → BehindPost wb w p l ⟨k, n, s, m⟩ (.returned (.tuple #[.slice none 0 0, .bool false])) w') := fun w' hw' => BehindPost.no ((HB.out none).2 rfl) rfl (Below.trans Hba.out (hw'.mono Hba.out.size))
        clear HB
        refine region_any (C := fun wx => Below w2.heap.size w2 wx) (by kernel_rfl) ?_
        refine anyIn_read (i := 0) rfl (by kernel_rfl) (by kernel_rfl) (by kernel_rfl) (fun _ _ _ _ h => h) ?_
        apply Exists.intro
        refine ⟨Or.inl ⟨by rfl, fun wx hwx => ?_⟩, ?_⟩
        (go_simp; first | done | with_reducible rfl)
        refine anyIn_read (i := 1) rfl (by kernel_rfl) (by kernel_rfl) (by kernel_rfl) (fun _ _ _ _ h => h) ?_
        apply Exists.intro
        refine ⟨Or.inl ⟨by rfl, fun wx hwx => ?_⟩, ?_⟩
        (obtain ⟨g0, g1, g2, g3, g4, g5, g6⟩ := Hpart.out wx hwx; go_simp; first | done | with_reducible rfl)
        refine anyIn_read (i := 2) rfl (by kernel_rfl) (by kernel_rfl) (by kernel_rfl) (fun _ _ _ _ h => h) ?_
        apply Exists.intro
        refine ⟨Or.inl ⟨by rfl, fun wx hwx => ?_⟩, ?_⟩
        (obtain ⟨g0, g1, g2, g3, g4, g5, g6⟩ := Hpart.out wx hwx; go_simp; first | done | with_reducible rfl)
        refine anyIn_read (i := 3) rfl (by kernel_rfl) (by kernel_rfl) (by kernel_rfl) (fun _ _ _ _ h => h) ?_
        apply Exists.intro
        refine ⟨Or.inl ⟨by rfl, fun wx hwx => ?_⟩, ?_⟩
        (obtain ⟨g0, g1, g2, g3, g4, g5, g6⟩ := Hpart.out wx hwx; go_simp; first | done | with_reducible rfl)
        refine anyIn_read (i := 4) rfl (by kernel_rfl) (by kernel_rfl) (by kernel_rfl) (fun _ _ _ _ h => h) ?_
        apply Exists.intro
        refine ⟨Or.inl ⟨by rfl, fun wx hwx => ?_⟩, ?_⟩
        (obtain ⟨f0, f1, f2, f3, f4⟩ := Hcls.out wx hwx; go_simp; first | done | with_reducible rfl)
        refine anyIn_read (i := 5) rfl (by kernel_rfl) (by kernel_rfl) (by kernel_rfl) (fun _ _ _ _ h => h) ?_
        apply Exists.intro
        refine ⟨Or.inl ⟨by rfl, fun wx hwx => ?_⟩, ?_⟩
        exact exec_eq59 rfl rfl rfl HEq.out wx
        refine anyIn_read (i := 6) rfl (by kernel_rfl) (by kernel_rfl) (by kernel_rfl) (fun _ _ _ _ h => h) ?_
        apply Exists.intro
        refine ⟨Or.inl ⟨by rfl, fun wx hwx => ?_⟩, ?_⟩
        (go_simp; first | done | with_reducible rfl)
        refine anyIn_done hCd (by kernel_rfl) ?_
        go_simp
        clear Hrest Hcls Hpart Hlk HEq Hkr hc6 hz6 hkl hxk hcap hl hm hdl Hba Hwa
        go_wp2
        exact bodyPost_ret (by simp [results, Try.results42, go_sem]) rfl (Q.out _ hCd)
      | true =>
        have HB' : Hid (behindL l ⟨k, n, s, m⟩ = some (trimL (l.dropLast ++ kr))) := (HB.out _).2 rfl
        clear HB
        refine region_any (C := fun wx => Below w2.heap.size w2 wx) (by kernel_rfl) ?_
        refine anyIn_read (i := 0) rfl (by kernel_rfl) (by kernel_rfl) (by kernel_rfl) (fun _ _ _ _ h => h) ?_
        apply Exists.intro
        refine ⟨Or.inl ⟨by rfl, fun wx hwx => ?_⟩, ?_⟩
        (go_simp; first | done | with_reducible rfl)
        refine anyIn_read (i := 1) rfl (by kernel_rfl) (by kernel_rfl) (by kernel_rfl) (fun _ _ _ _ h => h) ?_
        apply Exists.intro
        refine ⟨Or.inl ⟨by rfl, fun wx hwx => ?_⟩, ?_⟩
        (obtain ⟨g0, g1, g2, g3, g4, g5, g6⟩ := Hpart.out wx hwx; go_simp; first | done | with_reducible rfl)
        refine anyIn_read (i := 2) rfl (by kernel_rfl) (by kernel_rfl) (by kernel_rfl) (fun _ _ _ _ h => h) ?_
        apply Exists.intro
        refine ⟨Or.inl ⟨by rfl, fun wx hwx => ?_⟩, ?_⟩
        (obtain ⟨g0, g1, g2, g3, g4, g5, g6⟩ := Hpart.out wx hwx; go_simp; first | done | with_reducible rfl)
        refine anyIn_read (i := 3) rfl (by kernel_rfl) (by kernel_rfl) (by kernel_rfl) (fun _ _ _ _ h => h) ?_
        apply Exists.intro
        refine ⟨Or.inl ⟨by rfl, fun wx hwx => ?_⟩, ?_⟩
        (obtain ⟨g0, g1, g2, g3, g4, g5, g6⟩ := Hpart.out wx hwx; go_simp; first | done | with_reducible rfl)
        refine anyIn_read (i := 4) rfl (by kernel_rfl) (by kernel_rfl) (by kernel_rfl) (fun _ _ _ _ h => h) ?_
        apply Exists.intro
        refine ⟨Or.inl ⟨by rfl, fun wx hwx => ?_⟩, ?_⟩
        (obtain ⟨f0, f1, f2, f3, f4⟩ := Hcls.out wx hwx; go_simp; first | done | with_reducible rfl)
        refine anyIn_read (i := 5) rfl (by kernel_rfl) (by kernel_rfl) (by kernel_rfl) (fun _ _ _ _ h => h) ?_
        apply Exists.intro
        refine ⟨Or.inl ⟨by rfl, fun wx hwx => ?_⟩, ?_⟩
        exact exec_eq59 rfl rfl rfl HEq.out wx
        refine anyIn_read (i := 6) rfl (by kernel_rfl) (by kernel_rfl) (by kernel_rfl) (fun _ _ _ _ h => h) ?_
        apply Exists.intro
        refine ⟨Or.inl ⟨by rfl, fun wx hwx => ?_⟩, ?_⟩
        (go_simp; first | done | with_reducible rfl)
        refine anyIn_done hCd (by kernel_rfl) ?_
        go_simp
        clear HEq
        go_upto_region 7 with fail
        have hCd2 : Below w2.heap.size w2 w2.drew.drew := hCd.drew
        refine region_any (C := fun wx => Below w2.heap.size w2 wx) (by kernel_rfl) ?_
        refine anyIn_read (i := 0) rfl (by kernel_rfl) (by kernel_rfl) (by kernel_rfl) (fun _ _ _ _ h => h) ?_
        apply Exists.intro
        refine ⟨Or.inl ⟨by rfl, fun wx hwx => ?_⟩, ?_⟩
        (go_simp; first | done | with_reducible rfl)
        refine anyIn_read (i := 2) rfl (by kernel_rfl) (by kernel_rfl) (by kernel_rfl) (fun _ _ _ _ h => h) ?_
        apply Exists.intro
        refine ⟨Or.inl ⟨by rfl, fun wx hwx => ?_⟩, ?_⟩
        (go_simp; first | done | with_reducible rfl)
        refine anyIn_read (i := 3) rfl (by kernel_rfl) (by kernel_rfl) (by kernel_rfl) (fun _ _ _ _ h => h) ?_
        apply Exists.intro
        refine ⟨Or.inl ⟨by rfl, fun wx hwx => ?_⟩, ?_⟩
        (obtain ⟨g0, g1, g2, g3, g4, g5, g6⟩ := Hpart.out wx hwx; go_simp; first | done | with_reducible rfl)
        refine anyIn_read (i := 4) rfl (by kernel_rfl) (by kernel_rfl) (by kernel_rfl) (fun _ _ _ _ h => h) ?_
        apply Exists.intro
        refine ⟨Or.inl ⟨by rfl, fun wx hwx => ?_⟩, ?_⟩
        (obtain ⟨g0, g1, g2, g3, g4, g5, g6⟩ := Hpart.out wx hwx; go_simp; first | done | with_reducible rfl)
        refine anyIn_read (i := 5) rfl (by kernel_rfl) (by kernel_rfl) (by kernel_rfl) (fun _ _ _ _ h => h) ?_
        apply Exists.intro
        refine ⟨Or.inl ⟨by rfl, fun wx hwx => ?_⟩, ?_⟩
        (obtain ⟨g0, g1, g2, g3, g4, g5, g6⟩ := Hpart.out wx hwx; go_simp; first | done | with_reducible rfl)
        refine anyIn_one (i := 1) hCd2 rfl (by kernel_rfl) (fun K hK => ?_)
        go_simp
        refine Calls.mono (Hrest.out _ hCd2) ?_
        rintro e9 w3 ⟨qc, rfl, hqc, hqf, hqn, hqR, rfl⟩
        refine hK _ _ ?_
        clear hK K
        obtain rfl : qc = l.dropLast.length := hqf h0
        have hbw3 : Below wb.heap.size wb w2.drew.drew := Below.trans Hwa.out (hCd2.mono Hwa.out.size)
        obtain ⟨v, w4, hrun, q4, c4, rfl, hc4, hn4, hR4, hb4, hq4⟩ := run_append_line (c := cap') hqR hqn (Hlk.out.below hbw3) (by have := Hkr.out; omega) 41
        rw [Hkr.out] at hrun
        generalize l.dropLast ++ kr = L2 at *
        refine anyIn_one (i := 6) hCd2 rfl (by kernel_rfl) (fun K hK => ?_)
        rw [if_pos (by rfl)]
        refine Lib.wp_append_run _ (Operand.tmp 28) (Operand.tmp 32) 41 41 rfl _ _ rfl rfl _ _ hrun ?_
        refine hK _ _ ?_
        clear hK K hrun
        have hC4 : Below w2.heap.size w2 w4 := Below.then hCd2 hb4 (Nat.le_refl _)
        have Htr : Hid _ := trimmed_any wb w4 q4 c4 L2 hR4 hc4 hn4
        refine anyIn_one (i := 7) hC4 rfl (by kernel_rfl) (fun K hK => ?_)
        go_simp
        refine Calls.mono Htr.out ?_
        rintro e9 w5 ⟨q5, c5, rfl, hc5, hn5, hR5, hq5, rfl⟩
        refine hK _ _ ?_
        clear hK K
        have Q : Hid (BehindPost wb w p l ⟨k, n, s, m⟩ (.returned (.tuple #[.slice q5 (trimL L2).length c5, .bool true])) w5) := BehindPost.yes _ q5 c5 HB'.out rfl hc5 hn5 hR5 (Below.trans Hba.out (hC4.mono Hba.out.size)) (fun _ b hb => by
          have hs0 := Hba.out.size
          obtain ⟨a, ha, hab⟩ := hq5 b hb
          rcases hq4 with rfl | rfl
          · exact Or.inl ⟨a, ha, hab⟩
          · cases ha
            exact Or.inr (by rw [← hab]; exact hs0))
        refine anyIn_read (i := 8) rfl (by kernel_rfl) (by kernel_rfl) (by kernel_rfl) (fun _ _ _ _ h => h) ?_
        apply Exists.intro
        refine ⟨Or.inl ⟨by rfl, fun wx hwx => ?_⟩, ?_⟩
        (go_simp; first | done | with_reducible rfl)
        refine anyIn_read (i := 9) rfl (by kernel_rfl) (by kernel_rfl) (by kernel_rfl) (fun _ _ _ _ h => h) ?_
        apply Exists.intro
        refine ⟨Or.inl ⟨by rfl, fun wx hwx => ?_⟩, ?_⟩
        (go_simp; first | done | with_reducible rfl)
        refine anyIn_done hC4 (by kernel_rfl) ?_
        clear hqR hR4 hb4 hR5 Hrest Hcls Hpart Hlk Htr
        go_wp2
        exact bodyPost_ret (by simp [results, Try.results42, go_sem]) rfl Q.out
end
end Go.Proofs.Ytjhfomfaddfklaa
