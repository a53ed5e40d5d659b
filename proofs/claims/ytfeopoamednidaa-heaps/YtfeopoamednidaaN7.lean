/-
  The law's own make.
-/
import Derived.Test.YtfeopoamednidaaN6
namespace Go.Proofs.Ytfeopoamednidaa
open Go.RowKit Go.Deep Go.IntWalk
section
variable {B : Nat} {w : World} {wb hp hd base : Nat} {cells : Int} {S : Nat} {first : Int} {v : Value} {ts : List Th} {vp : Value} {ps : List Cl} {vq : Value} {qs : List Cl} {next : Int} {D : Doc} {mp : Option Nat} {q : Int → Option Addr} {ks : List Int} {R : Int → Int → Prop}
theorem PMade.form {kind tag n : Int} {e : Ending} {w1 : World} (h : PMade B w wb hp hd base cells S vq qs next D mp q ks kind tag n e w1) : ∃ x k : Int, e = .returned (.tuple #[.int .i64 x, .int .i64 k]) := by
  cases h with
  | arg he => exact ⟨_, _, he⟩
  | mem he => exact ⟨_, _, he⟩
  | new m hm x he => exact ⟨_, _, he⟩
theorem PMade.state {kind tag n : Int} {e : Ending} {w1 : World} (h : PMade B w wb hp hd base cells S vq qs next D mp q ks kind tag n e w1) : ∃ first v ts vp ps R, Jt B w1 wb hp hd base cells (S + 1) first v ts vp ps vq qs next D mp q ks R ∧ Below B w w1 := by
  cases h with
  | arg he hn first v ts vp ps R h hb => exact ⟨_, _, _, _, _, _, h, hb⟩
  | mem he hok hV first v ts vp ps R h hb => exact ⟨_, _, _, _, _, _, h, hb⟩
  | new m hm x he hok hV first v ts vp ps R h hb => exact ⟨_, _, _, _, _, _, h, hb⟩
theorem PMade.kp {kind tag n : Int} {e : Ending} {w1 w2 : World} (h : PMade B w wb hp hd base cells S vq qs next D mp q ks kind tag n e w1) (hk : Kp [] w1 w2) : PMade B w wb hp hd base cells S vq qs next D mp q ks kind tag n e w2 := by
  have hB : ∀ {w0 : World}, Below B w w0 → Kp [] w0 w2 → B ≤ w0.heap.size → Below B w w2 := fun h1 h2 h3 => h1.trans (h2.below h3 (by simp))
  cases h with
  | arg he hn first v ts vp ps R h hb => exact PMade.arg he hn first v ts vp ps R (h.kp hk) (hB hb hk (Nat.le_of_lt h.lt))
  | mem he hok hV first v ts vp ps R h hb => exact PMade.mem he hok hV first v ts vp ps R (h.kp hk) (hB hb hk (Nat.le_of_lt h.lt))
  | new m hm x he hok hV first v ts vp ps R h hb hl hx hrx hwx => exact PMade.new m hm x he hok hV first v ts vp ps R (h.kp hk) (hB hb hk (Nat.le_of_lt h.lt)) hl hx hrx hwx
theorem makeR_form {w1 : World} {kind tag n : Int} {f : Ending} {w2 : World} (h : MakeRPost w1 hd cells next D q qs kind tag n f w2) : ∃ y k : Int, f = .returned (.tuple #[.int .i64 y, .int .i64 k]) := by
  cases h with
  | bad he => exact ⟨_, _, he⟩
  | full V mb he => exact ⟨_, _, he⟩
  | made V mb g he => exact ⟨_, _, he⟩
/-- The document's Make, from the joint state. -/
theorem Jt.makeR (h : Jt B w wb hp hd base cells S first v ts vp ps vq qs next D mp q ks R) {qp : Option Addr} {qc : Nat} (hvq : vq = .slice qp qs.length qc) (kind tag n : Int) :
    Calls Try.prog 21 #[.pointer (some ⟨hd, 0, none⟩), .int .i64 kind, .int .i64 tag, .int .i64 n, .slice qp qs.length qc] w fun e w' => MakeRPost w hd cells next D q qs kind tag n e w' := by
  have hql : qs.length = ps.length := h.iso.roots.len.symm
  have hpl := h.pl
  have hsl := h.sl
  have hcs := h.cs
  rw [cellsT_eq] at hcs
  have hown := h.ms.q
  rw [hvq] at hown
  obtain ⟨q2, c2, e2, _, hrow⟩ := OwnC.at hown (by unfold maxLen; omega)
  cases e2
  refine makeR_any w hd cells next D mp q ks h.dc qs qp qc hrow (fun e => ?_) h.wfq (fun b hb => ?_) (by omega) (by omega) ?_ (by have := h.nx; omega) kind tag n
  · subst e
    rcases hown.2 with ⟨e3, h0⟩ | ⟨g, cap, cur, e3, _⟩
    · simp only [Value.slice.injEq, true_and] at e3
      exact e3
    · simp at e3
  · obtain ⟨x, hR, _⟩ := h.iso.reach' hb
    obtain ⟨t, u, _, e2, _⟩ := h.iso.things x b hR
    rw [e2]
    rfl
  · cases hD : D next with
    | none => rfl
    | some t =>
      have := h.kl next ((h.dc.keys next).1 (by rw [hD]; rfl))
      omega
end
theorem fieldC_iso {R : Int → Int → Prop} {ps qs : List Cl} (h : RowIso R ps qs) (c : Int) : CellIso R (fieldC c ps) (fieldC c qs) := by
  have hl := h.len
  by_cases h0 : c < 0 ∨ ps.length = 0
  · rw [fieldC_num h0, fieldC_num (by rcases h0 with h0 | h0; exact Or.inl h0; exact Or.inr (hl ▸ h0))]
    exact ⟨rfl, fun _ => rfl, fun e => by cases e⟩
  · have h1 : ¬ (c < 0 ∨ qs.length = 0) := by rw [← hl]; exact h0
    have hp : pickN c ps.length < ps.length := pickN_lt c (by omega)
    have hq : pickN c qs.length < qs.length := pickN_lt c (by omega)
    rw [fieldC_at h0 hp, fieldC_at h1 hq]
    have e : pickN c qs.length = pickN c ps.length := by rw [hl]
    simp only [e]
    exact h.at_ _ hp (by omega)
theorem fieldC_mem {c : Int} {l : List Cl} (h : ∀ d ∈ l, wfC d) (hc : (Lit.int .i64 c).wf = true) : wfC (fieldC c l) := by
  by_cases h0 : c < 0 ∨ l.length = 0
  · rw [fieldC_num h0]
    exact hc
  · have hp : pickN c l.length < l.length := pickN_lt c (by omega)
    rw [fieldC_at h0 hp]
    exact h _ (List.getElem_mem hp)
/-- Between two rounds of the second loop. -/
inductive L2 (B : Nat) (w : World) (wb hp hd base : Nat) (cells : Int) (S : Nat) (x y : Int) (m : Nat) (wr : World) : Prop
  | mk (first : Int) (v : Value) (ts : List Th) (vp : Value) (ps : List Cl) (vq : Value) (qs : List Cl) (next : Int) (D : Doc) (mp : Option Nat) (q : Int → Option Addr) (ks : List Int) (R : Int → Int → Prop) (h : Jt B wr wb hp hd base cells (S + 1) first v ts vp ps vq qs next D mp q ks R) (hR : R x y) (u : Th) (hy : D y = some u) (hu : u.fs.length = m) (hb : Below B w wr) : L2 B w wb hp hd base cells S x y m wr
section
set_option maxHeartbeats 8000000
set_option maxRecDepth 100000
theorem field52_2 (a b : Int) (s : Value) (w : World) : (Instr.field 52 (.agg #[.int .i64 a, .int .i64 b, s]) 2).run Try.prog w = .ok s w := by kernel_rfl
theorem neq50 (w : World) : (binOp .neq 50 (.agg #[.bool false, .int .i64 0]) (.agg #[.bool false, .int .i64 0])).run Try.prog w = .ok (.bool false) w := by kernel_rfl
theorem make7 (B : Nat) (w : World) (wb hp hd base : Nat) (cells : Int) (S : Nat) (first : Int) (v : Value) (ts : List Th) (vp : Value) (ps : List Cl) (vq : Value) (qs : List Cl) (next : Int) (D : Doc) (mp : Option Nat) (q : Int → Option Addr) (ks : List Int) (R : Int → Int → Prop) (h : Jt B w wb hp hd base cells S first v ts vp ps vq qs next D mp q ks R) (hS : S + 1 ≤ 3000000000000) (kind tag n : Int) (pl : Option Addr) (ls : List Int) (lc : Nat) (hls : RowI B w pl ls) :
    Calls Try.prog 7 #[.pointer (some ⟨wb, 0, none⟩), .int .i64 kind, .int .i64 tag, .int .i64 n, .slice pl ls.length lc] w fun e w' => StepPost B w wb hp hd base cells S e w' := by
  obtain ⟨qp, qc, gq, hvq, _, _⟩ := rv_form h.ms.q
  have hfs := h.fs
  have hpl := h.pl
  have Hmake : Hid (Calls Try.prog 20 #[.pointer (some ⟨hp, 0, none⟩), .int .i64 kind, .int .i64 tag, .int .i64 n, .func (.func 10) #[.pointer (some ⟨wb, 0, none⟩)] #[]] w fun e w' => PMade B w wb hp hd base cells S vq qs next D mp q ks kind tag n e w') :=
    Calls.mono (make_any w hp cells first v ts h.hh h.ok (by omega) h.cl ps h.roots base vp wb _ _ _ h.ms.box h.ms.p (by omega) kind tag n) (fun e w' g => h.pmade hS g)
  have hbx := h.ms.box
  have c0 : w.cell? ⟨wb, 0, none⟩ = some (.pointer (some ⟨hp, 0, none⟩)) := by simp only [World.cell?, hbx]; rfl
  have cl := (Array.getElem?_eq_some_iff.1 hbx).1
  have hnx : next ≤ S := h.nx.2
  have Hls : Hid (RowI B w pl ls) := hls
  clear h hbx hfs hpl hls
  go_enter Try.func7, Try.ntmps7
  go_wp2_with fail
  refine Calls.mono Hmake.out ?_
  clear Hmake c0 cl
  intro e w1 hP
  obtain ⟨x, k, rfl⟩ := hP.form
  have hP2 := hP.kp ((Kp.refl [] w1).drew)
  obtain ⟨first1, v1, ts1, vp1, ps1, R1, hJ1, hB1⟩ := hP.state
  have hbx := hJ1.ms.box
  have c1 : w1.cell? ⟨wb, 1, none⟩ = some (.pointer (some ⟨hd, 0, none⟩)) := by simp only [World.cell?, hbx]; rfl
  have c3 : w1.cell? ⟨wb, 3, none⟩ = some (.slice qp qs.length qc) := by rw [← hvq]; simp only [World.cell?, hbx]; rfl
  have cl := (Array.getElem?_eq_some_iff.1 hbx).1
  have HmakeR : Hid _ := (hJ1.kp ((Kp.refl [] w1).drew)).makeR hvq kind tag n
  have HP : Hid (PMade B w wb hp hd base cells S vq qs next D mp q ks kind tag n (.returned (.tuple #[.int .i64 x, .int .i64 k])) w1.drew) := hP2
  clear hP hP2 hJ1 hB1 hbx
  go_upto_region 2 with fail
  go_cut [13, 14] from 33 to 47 (fun a b wx => ∃ y k2 : Int, a = .int .i64 y ∧ b = .int .i64 k2 ∧ Hid (BothMade B w wb hp hd base cells S kind tag n (.returned (.tuple #[.int .i64 x, .int .i64 k])) (.returned (.tuple #[.int .i64 y, .int .i64 k2])) wx))
  case first =>
    have C1 : w1.drew.cell? ⟨wb, 1, none⟩ = some (.pointer (some ⟨hd, 0, none⟩)) := c1
    have C3 : w1.drew.cell? ⟨wb, 3, none⟩ = some (.slice qp qs.length qc) := c3
    have Cl : wb < w1.drew.heap.size := cl
    go_region_with (go_at_call 21; refine Calls.mono HmakeR.out ?_; intro f w2 hR; obtain ⟨y, k2, rfl⟩ := makeR_form hR; have HB : Hid _ := Jt.bmade HP.out hnx hR; clear hR)
    all_goals go_simp
    all_goals go_wp2_with fail
    all_goals go_meet
    all_goals exact ⟨y, k2, rfl, rfl, HB⟩
  case rest =>
    obtain ⟨y, k2, rfl, rfl, HB⟩ := hcut
    rename World => w2
    clear HP HmakeR c1 c3 cl hnx
    rcases HB.out with ⟨k0, hk0, he, hf, hst⟩ | ⟨m, hn, hm, x0, y0, he, hf, first2, v2, ts2, vp2, ps2, vq2, qs2, next2, D2, mp2, q2, ks2, R2, hJ, hB, hl, hx, hy, hrx, hry, hwx, hwy⟩
    · cases he
      cases hf
      have Hst : Hid (StepPost B w wb hp hd base cells S (.returned (.bool true)) w2) := hst
      have hk1 : (k == 0) = false := by simpa using hk0
      clear HB hst
      go_wp2_with fail
      exact bodyPost_ret (by simp [results, Try.results7, go_sem]) rfl Hst.out
    · cases he
      cases hf
      subst hn
      have HJ : Hid (Jt B w2 wb hp hd base cells (S + 1) first2 v2 ts2 vp2 ps2 vq2 qs2 next2 D2 mp2 q2 ks2 R2) := hJ
      have HBw : Hid (Below B w w2) := hB
      have HN : Hid ((docOf first2 ts2 x = some ⟨kind, tag, List.replicate m default⟩) ∧ (D2 y = some ⟨kind, tag, List.replicate m default⟩) ∧ (∀ z, ¬ R2 x z) ∧ (∀ z, ¬ R2 z y) ∧ (Lit.int .i64 x).wf = true ∧ (Lit.int .i64 y).wf = true ∧ ps2.length + 1 ≤ S + 1) := ⟨hx, hy, hrx, hry, hwx, hwy, hl⟩
      have Hget : Hid (∀ wx, Below w2.heap.size w2 wx → ∀ i : Nat, i < m → Calls Try.prog 14 #[.pointer (some ⟨hp, 0, none⟩), .int .i64 x, .int .i64 (i : Nat)] wx fun e w' => e = .returned (.agg #[.bool false, .int .i64 0]) ∧ Below w2.heap.size w2 w') := fun wx hk i hi => by
        have hi2 : i < (List.replicate m (default : Cl)).length := by simpa using hi
        refine Calls.mono ((pget_of hJ.hh hJ.oth).get wx hk x _ hx i hi2) ?_
        rintro e w' ⟨rfl, hw⟩
        exact ⟨by rw [List.getElem_replicate]; rfl, hk.trans (hw.mono hk.size)⟩
      clear HB hJ hB hx hy hrx hry hwx hwy hl
      have hneq := neq50
      have Hw0 : Hid (∀ wx, Below w2.heap.size w2 wx → wx.cell? ⟨wb, 0, none⟩ = some (.pointer (some ⟨hp, 0, none⟩)) ∧ wb < wx.heap.size) := fun wx hk => by
        have hbx := (HJ.out.kp (Kp.of_below hk)).ms.box
        exact ⟨by simp only [World.cell?, hbx]; rfl, (Array.getElem?_eq_some_iff.1 hbx).1⟩
      go_wp2_with fail
      go_loopg [15] m (fun g iv wr => ∃ (i : Nat), iv = .int .i64 (i : Nat) ∧ i ≤ m ∧ g = m - i ∧ Hid (Below w2.heap.size w2 wr))
      case atStart => exact ⟨0, rfl, by omega, by omega, Below.refl _ _⟩
      case round =>
        obtain ⟨i, rfl, hi1, rfl, HL⟩ := hrel
        by_cases hi : i < m
        · have hlt : (i : Int) < (m : Int) := by omega
          obtain ⟨f0, f1⟩ := Hw0.out wr HL.out
          have Hc : Hid _ := Hget.out wr HL.out i hi
          have hwi : wrap64 ((i : Int) + 1) = (i : Int) + 1 := wr64s i (by omega)
          go_wp2_with fail
          refine Calls.mono Hc.out ?_
          rintro e w4 ⟨rfl, hb4⟩
          have HB4 : Hid (Below w2.heap.size w2 (w4.alloc (.cells #[.bool false, .int .i64 0] 50))) := hb4.trans ((Kp.alloc [] w4 _).below hb4.size (by simp))
          have z : (w4.alloc (.cells #[.bool false, .int .i64 0] 50)).heap[w4.heap.size]? = some (.cells #[.bool false, .int .i64 0] 50) := alloc_get w4 _
          have z0 : (w4.alloc (.cells #[.bool false, .int .i64 0] 50)).cell? ⟨w4.heap.size, 0, none⟩ = some (.bool false) := by simp only [World.cell?, z]; rfl
          have z1 : (w4.alloc (.cells #[.bool false, .int .i64 0] 50)).cell? ⟨w4.heap.size, 1, none⟩ = some (.int .i64 0) := by simp only [World.cell?, z]; rfl
          have zl := (Array.getElem?_eq_some_iff.1 z).1
          clear hb4 Hc HL f0 f1 z
          go_wp2_with fail
          go_roundg (m - (i + 1))
          case measure => omega
          case rel => exact ⟨i + 1, by first | rfl | (congr 1; omega) | go_num, by omega, rfl, HB4.out⟩
        · have hie : i = m := by omega
          subst hie
          have hlt : ¬ ((i : Int) < (i : Int)) := by omega
          obtain ⟨hx, hy, hrx, hry, hwx, hwy, hl⟩ := HN.out
          have hJr := HJ.out.kp (Kp.of_below (X := []) HL.out)
          obtain ⟨pp, pc, gp, hvp2, _, _⟩ := rv_form hJr.ms.p
          obtain ⟨qp2, qc2, gq2, hvq2, _, _⟩ := rv_form hJr.ms.q
          subst hvp2
          subst hvq2
          have hql : qs2.length = ps2.length := hJr.iso.roots.len.symm
          have hBr : Below B w wr := HBw.out.trans (HL.out.mono (Nat.le_of_lt HJ.out.lt))
          have Hmore : Hid (Calls Try.prog 15 #[.pointer (some ⟨wb, 0, none⟩), .agg #[.bool true, .int .i64 x], .agg #[.bool true, .int .i64 y]] wr fun e w' => e = .returned (.tuple #[]) ∧ L2 B w wb hp hd base cells S x y i w') :=
            Calls.mono (more_any wr wb _ hd base pp pc ps2 qp2 qc2 qs2 hJr.ms (by omega) (by omega) ⟨true, x⟩ ⟨true, y⟩) (fun e w' g => by
              obtain ⟨he, vp3, vq3, hJ3, hB3⟩ := hJr.more (hJr.iso.link hrx hry hx hy) hwx hwy hl g
              exact ⟨he, L2.mk _ _ _ _ _ _ _ _ _ _ _ _ _ hJ3 (Or.inr ⟨rfl, rfl⟩) _ hy (by simp) (hBr.trans hB3)⟩)
          clear hx hy hrx hry hwx hwy hl hJr hBr HN HJ HBw Hget Hw0 HL hql
          go_wp2_with fail
          refine Calls.mono Hmore.out ?_
          clear Hmore
          rintro e w5 ⟨rfl, hL2⟩
          have HL2 : Hid (L2 B w wb hp hd base cells S x y i w5) := hL2
          clear hL2
          generalize i = m at *
          go_wp2_with fail
          go_loopg [17] m (fun g iv wr => ∃ (i : Nat), iv = .int .i64 (i : Nat) ∧ i ≤ m ∧ g = m - i ∧ Hid (L2 B w wb hp hd base cells S x y m wr))
          case atStart => exact ⟨0, rfl, by omega, by omega, HL2.out⟩
          case round =>
            obtain ⟨i, rfl, hi1, rfl, HL⟩ := hrel
            clear HL2
            have Hend : Hid (StepPost B w wb hp hd base cells S (.returned (.bool true)) wr) := by
              obtain ⟨first3, v3, ts3, vp3, ps3, vq3, qs3, next3, D3, mp3, q3, ks3, R3, hJ3, hR3, u, hy3, hu, hB3⟩ := HL.out
              exact StepPost.mk _ _ _ _ _ _ _ _ _ _ _ _ _ _ hJ3 hB3
            by_cases h1 : i < m
            · have g1 : (i : Int) < (m : Int) := by omega
              by_cases h2 : i < ls.length
              · have g2 : (i : Int) < (ls.length : Int) := by omega
                clear Hend
                obtain ⟨first3, v3, ts3, vp3, ps3, vq3, qs3, next3, D3, mp3, q3, ks3, R3, hJ3, hR3, u, hy3, hu, hB3⟩ := HL.out
                obtain ⟨lb, lo, hpl, hlbB, hcell, hwf⟩ := (Hls.out.below hB3).get i h2
                subst hpl
                have hlbl := World.block_lt_of_cell? _ _ hcell
                simp only at hlbl
                obtain ⟨pp3, pc3, gp3, hvp3, _, _⟩ := rv_form hJ3.ms.p
                obtain ⟨qp3, qc3, gq3, hvq3, _, _⟩ := rv_form hJ3.ms.q
                subst hvp3
                subst hvq3
                have hpl3 := hJ3.pl
                have hcis := fieldC_iso hJ3.iso.roots (ls[i]'h2)
                have hcwa := fieldC_mem (c := ls[i]'h2) hJ3.wfp hwf
                have hcwb := fieldC_mem (c := ls[i]'h2) hJ3.wfq hwf
                have Hfield : Hid (Calls Try.prog 12 #[.pointer (some ⟨wb, 0, none⟩), .int .i64 (ls[i]'h2)] wr fun e w' => ∃ ca cb : Cl, e = .returned (.tuple #[.agg #[.bool ca.p, .int .i64 ca.n], .agg #[.bool cb.p, .int .i64 cb.n]]) ∧ Kp [] wr w' ∧ CellIso R3 ca cb ∧ wfC ca ∧ wfC cb) :=
                  Calls.mono (field_any wr wb _ hd base pp3 pc3 ps3 qp3 qc3 qs3 hJ3.ms (by omega) hJ3.iso.roots.len.symm (ls[i]'h2) hwf) (fun e w' g => by
                    obtain ⟨he, hk⟩ := g
                    exact ⟨_, _, he, hk, hcis, hcwa, hcwb⟩)
                have HJ3 : Hid (Jt B wr wb hp hd base cells (S + 1) first3 v3 ts3 (.slice pp3 ps3.length pc3) ps3 (.slice qp3 qs3.length qc3) qs3 next3 D3 mp3 q3 ks3 R3) := hJ3
                have HM : Hid (R3 x y ∧ D3 y = some u ∧ u.fs.length = m ∧ Below B w wr) := ⟨hR3, hy3, hu, hB3⟩
                generalize ls[i]'h2 = cc at *
                clear hJ3 hR3 hy3 hu hB3 hcis hcwa hcwb hwf HL hpl3
                go_wp2_with fail
                refine Calls.mono Hfield.out ?_
                clear Hfield
                rintro e w4 ⟨⟨ap, an⟩, ⟨bp, bn⟩, rfl, hk4, hiso, hwa, hwb⟩
                have Hk4 : Hid (Kp [] wr w4) := hk4
                have Hiso : Hid (CellIso R3 ⟨ap, an⟩ ⟨bp, bn⟩ ∧ wfC ⟨ap, an⟩ ∧ wfC ⟨bp, bn⟩) := ⟨hiso, hwa, hwb⟩
                clear hk4 hiso hwa hwb hcell hlbl
                go_upto_region 18 with fail
                obtain ⟨hR3, hy3, hu, hB3⟩ := HM.out
                have hk5 : Kp [] wr ((w4.alloc (.cells #[.bool ap, .int .i64 an] 50)).alloc (.cells #[.bool bp, .int .i64 bn] 50)) := (Hk4.out.trans (Kp.alloc [] _ _)).trans (Kp.alloc [] _ _)
                have hb1 : ((w4.alloc (.cells #[.bool ap, .int .i64 an] 50)).alloc (.cells #[.bool bp, .int .i64 bn] 50)).heap[w4.heap.size]? = some (.cells #[.bool ap, .int .i64 an] 50) := (Below.heap_alloc _ _ _ (by simp)).trans (alloc_get w4 _)
                have hb2 : ((w4.alloc (.cells #[.bool ap, .int .i64 an] 50)).alloc (.cells #[.bool bp, .int .i64 bn] 50)).heap[w4.heap.size + 1]? = some (.cells #[.bool bp, .int .i64 bn] 50) := by
                  have := alloc_get (w4.alloc (.cells #[.bool ap, .int .i64 an] 50)) (.cells #[.bool bp, .int .i64 bn] 50)
                  rwa [World.size_alloc] at this
                have hsz4 := Hk4.out.size
                generalize (w4.alloc (.cells #[.bool ap, .int .i64 an] 50)).alloc (.cells #[.bool bp, .int .i64 bn] 50) = w5 at *
                have hJ5 := HJ3.out.kp (hk5.trans ((Kp.refl [] w5).drew))
                obtain ⟨t, u', hdx, hdy, hth⟩ := hJ5.iso.things x y hR3
                rw [hy3] at hdy
                cases hdy
                have htl : t.fs.length = u.fs.length := hth.fs.len
                have hset := set_th hJ5.hh hJ5.cl hJ5.oth hdx i (by omega) ⟨ap, an⟩ (fun e => by
                  obtain ⟨t2, u2, e1, _⟩ := hJ5.iso.things _ _ (Hiso.out.1.2.2 e)
                  rw [e1]
                  rfl) Hiso.out.2.1
                simp only [Cl.val] at hset
                have Hset : Hid _ := hset
                have HJ5 : Hid (Jt B w5.drew wb hp hd base cells (S + 1) first3 v3 ts3 (.slice pp3 ps3.length pc3) ps3 (.slice qp3 qs3.length qc3) qs3 next3 D3 mp3 q3 ks3 R3) := hJ5
                have HM2 : Hid (R3 x y ∧ D3 y = some u ∧ u.fs.length = m ∧ docOf first3 ts3 x = some t ∧ Below B w w5.drew) := ⟨hR3, hy3, hu, hdx, hB3.trans ((hk5.trans ((Kp.refl [] w5).drew)).below (Nat.le_of_lt HJ3.out.lt) (by simp))⟩
                have hwbx := hJ5.ms.box
                have c0 : w5.cell? ⟨wb, 0, none⟩ = some (.pointer (some ⟨hp, 0, none⟩)) := by
                  have : w5.heap[wb]? = _ := hwbx
                  simp only [World.cell?, this]
                  rfl
                have cl0 : wb < w5.heap.size := (Array.getElem?_eq_some_iff.1 hwbx).1
                have e0 : w5.cell? ⟨w4.heap.size, 0, none⟩ = some (.bool ap) := by simp only [World.cell?, hb1]; rfl
                have e1 : w5.cell? ⟨w4.heap.size, 1, none⟩ = some (.int .i64 an) := by simp only [World.cell?, hb1]; rfl
                have el : w4.heap.size < w5.heap.size := (Array.getElem?_eq_some_iff.1 hb1).1
                have Hb2 : Hid (w5.heap[w4.heap.size + 1]? = some (.cells #[.bool bp, .int .i64 bn] 50)) := hb2
                have Hsz4 : Hid (wr.heap.size ≤ w4.heap.size) := hsz4
                clear hset hJ5 hdx hth htl hk5 hb1 hb2 hR3 hy3 hu hB3 hwbx HM HJ3 Hk4 hsz4
                go_cut [] from 96 to 103 (fun wx => Hid (∃ ts', HpO wx hp cells first3 v3 (encL (fun _ => 0) first3 ts') ∧ Closed first3 ts' ∧ (∀ t ∈ ts', okTh t) ∧ docOf first3 ts' = upd (docOf first3 ts3) x (some ⟨t.kind, t.tag, t.fs.set i ⟨ap, an⟩⟩) ∧ Kp v3.ownBlock.toList w5.drew wx))
                case first =>
                  have C0 : w5.drew.cell? ⟨wb, 0, none⟩ = some (.pointer (some ⟨hp, 0, none⟩)) := c0
                  have E0 : w5.drew.cell? ⟨w4.heap.size, 0, none⟩ = some (.bool ap) := e0
                  have E1 : w5.drew.cell? ⟨w4.heap.size, 1, none⟩ = some (.int .i64 an) := e1
                  go_region_with (go_at_call 13; refine Calls.mono Hset.out ?_; rintro e9 w6 ⟨ts', rfl, hs1, hs2, hs3, hs4, hs5, hs6⟩; have HS : Hid (∃ ts', HpO w6 hp cells first3 v3 (encL (fun _ => 0) first3 ts') ∧ Closed first3 ts' ∧ (∀ t ∈ ts', okTh t) ∧ docOf first3 ts' = upd (docOf first3 ts3) x (some ⟨t.kind, t.tag, t.fs.set i ⟨ap, an⟩⟩) ∧ Kp v3.ownBlock.toList w5.drew w6) := ⟨ts', hs1, hs2, hs3, hs4, hs6⟩; clear hs1 hs2 hs3 hs4 hs5 hs6)
                  all_goals go_simp
                  all_goals go_wp2_with fail
                  all_goals go_meet
                  all_goals exact HS
                case rest =>
                  rename World => w6
                  obtain ⟨ts', hs1, hs2, hs3, hs4, hs6⟩ := hcut.out
                  clear hcut c0 cl0 e0 e1 el Hset
                  obtain ⟨hR3, hy3, hu, hdx, hB5⟩ := HM2.out
                  have hJ5 := HJ5.out
                  have hrow := hJ5.dc.rows y u hy3
                  obtain ⟨g, hq3⟩ : ∃ g, q3 y = some ⟨g, 0, none⟩ := by
                    cases hqq : q3 y with
                    | none => have := (hrow.2.1 hqq).1; omega
                    | some a => exact ⟨a.block, by rw [← (hJ5.qr y u a hy3 hqq).1]⟩
                  obtain ⟨mb, hmb, hmap⟩ : ∃ mb, mp3 = some mb ∧ MapAt w5.drew mb ks3.length (fun b => (D3 b).map (thV (q3 b))) := by
                    rcases hJ5.dc.map with ⟨_, e⟩ | h
                    · have := (hJ5.dc.keys y).1 (by rw [hy3]; rfl)
                      rw [e] at this
                      cases this
                    · exact h
                  obtain ⟨hJ7, hB7, r0, r1, rf⟩ := hJ5.set hR3 hdx hy3 (by omega) hq3 Hiso.out.1 Hiso.out.2.2 hs1 hs2 hs3 hs4 hs6
                  have hoff := fun k (hk : v3.ownBlock = some k) => hJ5.docOff (k := k) (Or.inr (Or.inl hk))
                  have hmem : ∀ k, k ∈ v3.ownBlock.toList → v3.ownBlock = some k := fun k hk => by simpa using hk
                  have hwbx : w6.heap[wb]? = _ := (hs6.block wb (Array.getElem?_eq_some_iff.1 hJ5.ms.box).1 (fun hx => (hoff wb (hmem _ hx)).2.2.2.1 rfl)).trans hJ5.ms.box
                  have hhdx : w6.heap[hd]? = _ := (hs6.block hd (Array.getElem?_eq_some_iff.1 hJ5.dc.box).1 (fun hx => (hoff hd (hmem _ hx)).1 rfl)).trans hJ5.dc.box
                  have hmap6 : MapAt w6 mb ks3.length (fun b => (D3 b).map (thV (q3 b))) := hmap.kp hs6 (fun hx => (hoff mb (hmem _ hx)).2.1 hmb)
                  have hwy : (Lit.int .i64 y).wf = true := i64_wf (by have := hJ5.kl y ((hJ5.dc.keys y).1 (by rw [hy3]; rfl)); have := hJ5.nx; have := hJ5.sl; omega)
                  have hlk := hmap6.look map29 zero51 hwy
                  have hlkd := (hmap6.kp ((Kp.refl [] w6).drew) (by simp)).look map29 zero51 hwy
                  simp only [hy3, Option.map_some, Option.getD_some, thV, hq3] at hlk hlkd
                  have hb2 : w6.heap[w4.heap.size + 1]? = some (.cells #[.bool bp, .int .i64 bn] 50) := (hs6.block _ (Array.getElem?_eq_some_iff.1 Hb2.out).1 (fun hx => by
                    obtain ⟨cur, hc⟩ := hJ5.hh.own.obj (hmem _ hx)
                    have : w5.heap[w4.heap.size + 1]? = _ := hc
                    rw [Hb2.out] at this
                    simp at this)).trans Hb2.out
                  have c1 : w6.cell? ⟨wb, 1, none⟩ = some (.pointer (some ⟨hd, 0, none⟩)) := by simp only [World.cell?, hwbx]; rfl
                  have cl1 := (Array.getElem?_eq_some_iff.1 hwbx).1
                  have c2 : w6.cell? ⟨hd, 1, none⟩ = some (.map (some mb)) := by rw [hmb] at hhdx; simp only [World.cell?, hhdx]; rfl
                  have cl2 := (Array.getElem?_eq_some_iff.1 hhdx).1
                  have e0 : w6.cell? ⟨w4.heap.size + 1, 0, none⟩ = some (.bool bp) := by simp only [World.cell?, hb2]; rfl
                  have e1 : w6.cell? ⟨w4.heap.size + 1, 1, none⟩ = some (.int .i64 bn) := by simp only [World.cell?, hb2]; rfl
                  have el := (Array.getElem?_eq_some_iff.1 hb2).1
                  have gl := World.block_lt_of_cell? _ _ r0
                  simp only at gl
                  have rf0 := rf (i * 2)
                  have rf1 := rf (i * 2 + 1)
                  have gi : (i : Int) < (u.fs.length : Int) := by omega
                  have hwi : wrap64 ((i : Int) + 1) = (i : Int) + 1 := wr64s i (by omega)
                  have hfl := field52_2
                  have Q : Hid (L2 B w wb hp hd base cells S x y m (put2 w6 g (i * 2) ⟨bp, bn⟩).drew) := L2.mk _ _ _ _ _ _ _ _ _ _ _ _ _ (hJ7.kp ((Kp.refl [] _).drew)) hR3 _ (upd_same _ _ _) (by simp [hu]) ((hB5.trans hB7).drew)
                  clear hJ7 hB7 rf hoff hmem hwbx hhdx hmap6 hmap hmb hrow hJ5 HJ5 HM2 hs1 hs2 hs3 hs4 hs6 hb2 Hb2 hR3 hy3 hdx hB5 Hiso Hsz4 hwy
                  unfold put2 at Q
                  simp only at Q
                  have C1 : w6.drew.cell? ⟨wb, 1, none⟩ = some (.pointer (some ⟨hd, 0, none⟩)) := c1
                  have C2 : w6.drew.cell? ⟨hd, 1, none⟩ = some (.map (some mb)) := c2
                  have E0 : w6.drew.cell? ⟨w4.heap.size + 1, 0, none⟩ = some (.bool bp) := e0
                  have E1 : w6.drew.cell? ⟨w4.heap.size + 1, 1, none⟩ = some (.int .i64 bn) := e1
                  have R0 : w6.drew.cell? ⟨g, i * 2, none⟩ = _ := r0
                  have R1 : w6.drew.cell? ⟨g, i * 2 + 1, none⟩ = _ := r1
                  go_upto_region 19 with fail
                  go_region
                  generalize ((w6.setCell ⟨g, i * 2, none⟩ (.bool bp)).setCell ⟨g, i * 2 + 1, none⟩ (.int .i64 bn)).drew = w7 at *
                  clear r0 r1 hlk hlkd c1 cl1 c2 cl2 e0 e1 el gl rf0 rf1 gi hfl C1 C2 E0 E1 R0 R1 hq3 hu
                  clear g1 g2 hlbB hneq h2 hS Hls hvq
                  go_simp
                  go_upto_region 16 with fail
                  have Hq1 : Hid (i < m) := h1
                  clear h1 hi1
                  go_wp2_with fail
                  go_roundg (m - (i + 1))
                  case measure => have := Hq1.out; omega
                  case rel => exact ⟨i + 1, by first | rfl | (congr 1; omega) | go_num, Hq1.out, rfl, Q.out⟩
              · have g2 : ¬ ((i : Int) < (ls.length : Int)) := by omega
                clear HL
                go_wp2_with fail
                exact bodyPost_ret (by simp [results, Try.results7, go_sem]) rfl Hend.out
            · have g1 : ¬ ((i : Int) < (m : Int)) := by omega
              clear HL
              go_wp2_with fail
              exact bodyPost_ret (by simp [results, Try.results7, go_sem]) rfl Hend.out
end
end Go.Proofs.Ytfeopoamednidaa
