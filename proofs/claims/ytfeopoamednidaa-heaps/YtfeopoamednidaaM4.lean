/-
  Things are moved: what they refer to (move.fields).
-/
import Derived.Test.YtfeopoamednidaaM3
namespace Go.Proofs.Ytfeopoamednidaa
open Go.RowKit Go.Deep Go.IntWalk
/-- Five cells are stored. -/
def put5 (w : World) (b o : Nat) (x : Wd) : World := ((((w.setCell ⟨b, o, none⟩ (.int .i64 x.n)).setCell ⟨b, o + 1, none⟩ (.int .i32 x.moved)).setCell ⟨b, o + 2, none⟩ (.int .u16 x.tag)).setCell ⟨b, o + 3, none⟩ (.int .u8 x.kind)).setCell ⟨b, o + 4, none⟩ (.int .u8 x.part)
theorem put5_kp (w : World) (b o : Nat) (x : Wd) : Kp [b] w (put5 w b o x) :=
  ((((Kp.setCell _ ⟨b, _, none⟩ (by simp) _).trans (Kp.setCell _ ⟨b, _, none⟩ (by simp) _)).trans (Kp.setCell _ ⟨b, _, none⟩ (by simp) _)).trans (Kp.setCell _ ⟨b, _, none⟩ (by simp) _)).trans (Kp.setCell _ ⟨b, _, none⟩ (by simp) _)
theorem put5_own {w : World} {v : Value} {l : List Wd} (h : OwnW w v l) {g : Nat} (hg : v.ownBlock = some g) (k : Nat) (hk : k < l.length) (x : Wd) : OwnW (put5 w g (k * 5) x) v (l.set k x) := by
  have h1 := ownsRow_set (ownsRow_set (ownsRow_set (ownsRow_set (ownsRow_set h hg (k * 5) (.int .i64 x.n)) hg (k * 5 + 1) (.int .i32 x.moved)) hg (k * 5 + 2) (.int .u16 x.tag)) hg (k * 5 + 3) (.int .u8 x.kind)) hg (k * 5 + 4) (.int .u8 x.part)
  unfold OwnW
  rw [List.length_set, ← wdV_set l k hk x]
  exact h1
theorem MvM.setTo {w : World} {mb : Nat} {cells first tfirst : Int} {fv tv : Value} {fws tws : List Wd} (h : MvM w mb cells first tfirst fv tv fws tws) {g : Nat} (hg : tv.ownBlock = some g) (k : Nat) (hk : k < tws.length) (x : Wd) : MvM (put5 w g (k * 5) x) mb cells first tfirst fv tv fws (tws.set k x) := by
  have hne : mb ≠ g := fun e => h.town.ne h.box (by decide) (e ▸ hg)
  exact ⟨((put5_kp w g (k * 5) x).block mb (Array.getElem?_eq_some_iff.1 h.box).1 (by simpa using hne)).trans h.box, h.fown.kp (put5_kp w g (k * 5) x) (fun j hj => by simp; exact fun e => h.apart j hj (e ▸ hg)), put5_own h.town hg k hk x, h.apart, h.flen, by rw [List.length_set]; exact h.tlen, h.pos, h.tpos⟩
theorem MvM.toRow {w : World} {mb : Nat} {cells first tfirst : Int} {fv tv : Value} {fws tws : List Wd} (h : MvM w mb cells first tfirst fv tv fws tws) {k : Nat} {y : Wd} (hk : tws[k]? = some y) : ∃ g cap, tv = .slice (some ⟨g, 0, none⟩) tws.length cap ∧ tws.length ≤ cap ∧ WdAt w g 0 k y ∧ g < w.heap.size ∧ (∀ o, w.frozen? ⟨g, o, none⟩ = false) ∧ w.cell? ⟨mb, 5, none⟩ = some tv ∧ mb < w.heap.size := by
  obtain ⟨q, cap, rfl, hc, hr, _, ha⟩ := h.town.at h.tlen
  obtain ⟨g, hp, hw, hl⟩ := hr.at_ hk
  subst hp
  have hb := h.box
  exact ⟨g, cap, rfl, hc, hw, hl, fun o => ownsRow_frozen h.town rfl o, by simp only [World.cell?, hb]; rfl, (Array.getElem?_eq_some_iff.1 hb).1⟩
theorem MvM.toCell {w : World} {mb : Nat} {cells first tfirst : Int} {fv tv : Value} {fws tws : List Wd} (h : MvM w mb cells first tfirst fv tv fws tws) : ∃ q cap, tv = .slice q tws.length cap ∧ w.cell? ⟨mb, 5, none⟩ = some (.slice q tws.length cap) ∧ mb < w.heap.size := by
  obtain ⟨q, cap, rfl, hc, hr, _, ha⟩ := h.town.at h.tlen
  have hb := h.box
  exact ⟨q, cap, rfl, by simp only [World.cell?, hb]; rfl, (Array.getElem?_eq_some_iff.1 hb).1⟩
/-- Between two rounds. -/
structure FS (w : World) (mb : Nat) (cells a tf : Int) (ts : List Th) (rs : List Cl) (fv tv0 : Value) (V0 : List Int) (wr : World) (tv : Value) (V : List Int) (i : Nat) : Prop where
  m : Mvg wr mb cells a tf ts rs fv tv V i
  k : Kp ([mb] ++ fv.ownBlock.toList ++ tv0.ownBlock.toList) w wr
  f : tv.ownBlock = tv0.ownBlock ∨ ∃ g, tv.ownBlock = some g ∧ w.heap.size ≤ g
  s : ∀ y ∈ V0, y ∈ V
  e : ∀ y ∈ V0, fw (docOf a ts) tf V y = fw (docOf a ts) tf V0 y
inductive FieldsPost (w : World) (mb : Nat) (cells a tf : Int) (ts : List Th) (rs : List Cl) (fv tv0 : Value) (V0 : List Int) : Ending → World → Prop
  | mk (w' : World) (tv : Value) (V : List Int) (h : FS w mb cells a tf ts rs fv tv0 V0 w' tv V (raw (docOf a ts) V).length) : FieldsPost w mb cells a tf ts rs fv tv0 V0 (.returned (.tuple #[])) w'
section
set_option maxHeartbeats 8000000
set_option maxRecDepth 100000
theorem fields_any (w : World) (mb : Nat) (cells a tf : Int) (ts : List Th) (rs : List Cl) (fv tv0 : Value) (V0 : List Int) (hc : Closed a ts) (h : Mvg w mb cells a tf ts rs fv tv0 V0 0) :
    Calls Try.prog 24 #[.pointer (some ⟨mb, 0, none⟩)] w fun e w' => FieldsPost w mb cells a tf ts rs fv tv0 V0 e w' := by
  have H0 : Hid (FS w mb cells a tf ts rs fv tv0 V0 w tv0 V0 0) := ⟨h, Kp.refl _ _, Or.inl rfl, fun _ h => h, fun _ _ => rfl⟩
  have Hc : Hid (Closed a ts) := hc
  have htot := h.small
  clear h hc
  go_enter Try.func24, Try.ntmps24
  go_wp2_with fail
  go_loopg [2] 1000000 (fun g iv wr => ∃ (i : Nat) (V : List Int) (tv : Value), iv = .int .i64 (i : Nat) ∧ i ≤ 1000000 ∧ g = 1000000 - i ∧ Hid (FS w mb cells a tf ts rs fv tv0 V0 wr tv V i))
  case atStart => exact ⟨0, V0, tv0, rfl, by omega, by omega, H0.out⟩
  case round =>
    obtain ⟨i, V, tv, rfl, hi1, rfl, HL⟩ := hrel
    have hsl : (scan (docOf a ts) tf V i).length = (raw (docOf a ts) V).length := scan_len _ _ _ _
    have hrl : (raw (docOf a ts) V).length ≤ 1000000 := by
      have := cells_le HL.out.m.nd HL.out.m.there
      rw [raw_len]
      omega
    by_cases hi : i < (raw (docOf a ts) V).length
    · obtain ⟨y, hy⟩ : ∃ y, (raw (docOf a ts) V)[i]? = some y := ⟨_, List.getElem?_eq_getElem hi⟩
      have hye : (raw (docOf a ts) V)[i]'hi = y := by rw [List.getElem?_eq_getElem hi] at hy; exact Option.some.inj hy
      have hsy : (scan (docOf a ts) tf V i)[i]? = some y := (scan_get _ tf V i hi).trans hy
      obtain ⟨g, cap, rfl, hcap, hwd, hgl, hgf, c5, hml⟩ := HL.out.m.mem.toRow hsy
      obtain ⟨d0, d1, d2, d3, d4⟩ := hwd
      rw [Nat.zero_add] at d0 d1 d2 d3 d4
      have hlt : ((i : Int) < ((scan (docOf a ts) tf V i).length : Nat)) := by rw [hsl]; omega
      have hwi : wrap64 ((i : Int) + 1) = (i : Int) + 1 := wr64s i hi1
      have Hk1 : Hid (Kp [] wr (wr.alloc (.cells #[.int .i64 y.n, .int .i32 y.moved, .int .u16 y.tag, .int .u8 y.kind, .int .u8 y.part] 79))) := Kp.alloc [] wr _
      have Hbx : Hid ((wr.alloc (.cells #[.int .i64 y.n, .int .i32 y.moved, .int .u16 y.tag, .int .u8 y.kind, .int .u8 y.part] 79)).heap[wr.heap.size]? = some (.cells #[.int .i64 y.n, .int .i32 y.moved, .int .u16 y.tag, .int .u8 y.kind, .int .u8 y.part] 79)) := alloc_get wr _
      have HN : Hid ((scan (docOf a ts) tf V i).length = (raw (docOf a ts) V).length) := hsl
      clear hsl H0
      obtain ⟨N, hN⟩ : ∃ N, N = (scan (docOf a ts) tf V i).length := ⟨_, rfl⟩
      rw [← hN] at hlt c5 hcap
      have HN2 : Hid (N = (scan (docOf a ts) tf V i).length) := hN
      rw [← hN] at HL
      clear hN
      go_upto_region 4 with fail
      clear d0 d1 d2 d3 d4 c5 hlt hcap hgl hgf hml
      generalize wr.alloc (.cells #[.int .i64 y.n, .int .i32 y.moved, .int .u16 y.tag, .int .u8 y.kind, .int .u8 y.part] 79) = w1 at *
      have hb4 : w1.cell? ⟨wr.heap.size, 4, none⟩ = some (.int .u8 y.part) := by simp only [World.cell?, Hbx.out]; rfl
      have hb0 : w1.cell? ⟨wr.heap.size, 0, none⟩ = some (.int .i64 y.n) := by simp only [World.cell?, Hbx.out]; rfl
      have hbl := (Array.getElem?_eq_some_iff.1 Hbx.out).1
      by_cases hp : y.part = 1
      · obtain ⟨z, hz, hf⟩ := raw_mem (hye ▸ List.getElem_mem hi : y ∈ raw (docOf a ts) V) hp
        obtain ⟨tz, htz⟩ := Option.isSome_iff_exists.1 (HL.out.m.there z hz)
        have hthz : thP (docOf a ts) z = tz := by unfold thP; rw [htz]; rfl
        rw [hthz] at hf
        have hxs := Hc.out tz (doc_mem htz) y.n hf
        have Hcall : Hid _ := mg_thing w1 mb cells a tf ts rs fv (.slice (some ⟨g, 0, none⟩) N cap) V i (HL.out.m.kp Hk1.out (by simp) (by simp) (by simp)) y.n hxs (Reach.field z y.n tz (HL.out.m.rch z hz) htz hf)
        have hp1 : (y.part == 1) = true := by simpa using hp
        clear hf hthz hxs hz htz
        go_wp2_with fail
        refine Calls.mono Hcall.out ?_
        rintro e w2 ⟨V', tv', w2, hg, hm, hk, hfr⟩
        have hgl : g < wr.heap.size := HL.out.m.mem.town.lt rfl
        have hmbl : mb < wr.heap.size := (Array.getElem?_eq_some_iff.1 HL.out.m.mem.box).1
        have hfl : ∀ k, fv.ownBlock = some k → k < wr.heap.size := fun k hk => HL.out.m.mem.fown.lt hk
        have hnb : wr.heap.size ∉ [mb] ++ fv.ownBlock.toList ++ (Value.ownBlock (.slice (some ⟨g, 0, none⟩) N cap)).toList := by
          simp [Value.ownBlock]
          exact ⟨by omega, fun e => by have := hfl _ e; omega, by omega⟩
        have hbx2 : w2.heap[wr.heap.size]? = _ := (hk.block _ hbl hnb).trans Hbx.out
        have hbl2 := (Array.getElem?_eq_some_iff.1 hbx2).1
        have e0 : w2.cell? ⟨wr.heap.size, 0, none⟩ = some (.int .i64 y.n) := by simp only [World.cell?, hbx2]; rfl
        have e1 : w2.frozen? ⟨wr.heap.size, 0, none⟩ = false := by simp only [World.frozen?, hbx2]; rfl
        have hbx3 : (w2.setCell ⟨wr.heap.size, 0, none⟩ (.int .i64 (fw (docOf a ts) tf V' y.n))).heap[wr.heap.size]? = some (.cells #[.int .i64 (fw (docOf a ts) tf V' y.n), .int .i32 y.moved, .int .u16 y.tag, .int .u8 y.kind, .int .u8 y.part] 79) := by
          simp [World.setCell, Array.getElem?_modify, hbx2]
        have hk3 : Kp [wr.heap.size] w2 (w2.setCell ⟨wr.heap.size, 0, none⟩ (.int .i64 (fw (docOf a ts) tf V' y.n))) := Kp.setCell _ _ (by simp) _
        have htvl : ∀ k, tv'.ownBlock = some k → k ≠ wr.heap.size := fun k hk2 e => by
          rcases hfr with hfr | ⟨g2, hg2, hg3⟩
          · rw [hfr] at hk2
            simp [Value.ownBlock] at hk2
            omega
          · rw [hg2] at hk2
            cases hk2
            omega
        have hm3 := hm.kp hk3 (by simp; omega) (fun k hk2 => by simp; have := hfl k hk2; omega) (fun k hk2 => by simp; exact htvl k hk2)
        have HK3 : Hid (Kp ([mb] ++ fv.ownBlock.toList ++ (Value.ownBlock (.slice (some ⟨g, 0, none⟩) N cap)).toList) wr (w2.setCell ⟨wr.heap.size, 0, none⟩ (.int .i64 (fw (docOf a ts) tf V' y.n)))) := ((Hk1.out.mono (by simp)).trans hk).then hk3 (by simp)
        have Hfr : Hid (tv'.ownBlock = some g ∨ ∃ g2, tv'.ownBlock = some g2 ∧ wr.heap.size ≤ g2) := by
          rcases hfr with hfr | ⟨g2, hg2, hg3⟩
          · exact Or.inl hfr
          · exact Or.inr ⟨g2, hg2, Nat.le_trans (Hk1.out.size) hg3⟩
        have hi' : i < (raw (docOf a ts) V').length := by
          cases hg with
          | same _ => exact hi
          | more _ => rw [raw_snoc, List.length_append]; omega
        have hye' : (raw (docOf a ts) V')[i]'hi' = y := by
          cases hg with
          | same _ => exact hye
          | more _ =>
            have : (raw (docOf a ts) (V ++ [y.n]))[i]? = some y := by rw [raw_snoc, List.getElem?_append_left hi]; exact hy
            rw [List.getElem?_eq_getElem hi'] at this
            exact Option.some.inj this
        have hsy' : (scan (docOf a ts) tf V' i)[i]? = some y := by rw [scan_get _ tf V' i hi', List.getElem?_eq_getElem hi', hye']
        have Hg : Hid (Grow V y.n V') := hg
        have Hye' : Hid (_ = y) := hye'
        have Hsl' : Hid ((scan (docOf a ts) tf V' i).length = (raw (docOf a ts) V').length) := scan_len _ _ _ _
        clear hye' hg hk hm hfr Hcall hbx2 hbl2 hnb hb4 hb0 hbl hfl htvl hsy hye hy
        go_upto_region 6 with fail
        generalize w2.setCell ⟨wr.heap.size, 0, none⟩ (.int .i64 (fw (docOf a ts) tf V' y.n)) = w3 at *
        clear e0 e1 hk3
        obtain ⟨g', cap', rfl, hcap, hwd, hgl', hgf, c5, hml⟩ := hm3.mem.toRow hsy'
        obtain ⟨d0, d1, d2, d3, d4⟩ := hwd
        rw [Nat.zero_add] at d0 d1 d2 d3 d4
        have b0 : w3.cell? ⟨wr.heap.size, 0, none⟩ = some (.int .i64 (fw (docOf a ts) tf V' y.n)) := by simp only [World.cell?, hbx3]; rfl
        have b1 : w3.cell? ⟨wr.heap.size, 1, none⟩ = some (.int .i32 y.moved) := by simp only [World.cell?, hbx3]; rfl
        have b2 : w3.cell? ⟨wr.heap.size, 2, none⟩ = some (.int .u16 y.tag) := by simp only [World.cell?, hbx3]; rfl
        have b3 : w3.cell? ⟨wr.heap.size, 3, none⟩ = some (.int .u8 y.kind) := by simp only [World.cell?, hbx3]; rfl
        have b4 : w3.cell? ⟨wr.heap.size, 4, none⟩ = some (.int .u8 y.part) := by simp only [World.cell?, hbx3]; rfl
        have b5 := (Array.getElem?_eq_some_iff.1 hbx3).1
        have hil : i < (scan (docOf a ts) tf V' i).length := by rw [Hsl'.out]; exact hi'
        have hmv : mvW (fw (docOf a ts) tf V') y = ⟨fw (docOf a ts) tf V' y.n, y.moved, y.tag, y.kind, 1⟩ := by unfold mvW; rw [if_pos hp, ← hp]
        have hset := hm3.mem.setTo (g := g') rfl i hil ⟨fw (docOf a ts) tf V' y.n, y.moved, y.tag, y.kind, 1⟩
        rw [← hmv, ← Hye'.out, ← scan_next _ tf V' i hi', Hye'.out, hmv] at hset
        have hKf : Kp [g'] w3 (put5 w3 g' (i * 5) ⟨fw (docOf a ts) tf V' y.n, y.moved, y.tag, y.kind, 1⟩) := put5_kp _ _ _ _
        have Q : Hid (FS w mb cells a tf ts rs fv tv0 V0 (put5 w3 g' (i * 5) ⟨fw (docOf a ts) tf V' y.n, y.moved, y.tag, y.kind, 1⟩).drew (.slice (some ⟨g', 0, none⟩) (scan (docOf a ts) tf V' i).length cap') V' (i + 1)) := by
          have hsz := HL.out.k.size
          have hg1 : ∀ k, k = g ∨ wr.heap.size ≤ k → k ∈ [mb] ++ fv.ownBlock.toList ++ tv0.ownBlock.toList ∨ w.heap.size ≤ k := fun k hk => by
            rcases hk with rfl | hk
            · rcases HL.out.f with hf | ⟨g2, hg2, hg3⟩
              · exact Or.inl (by rw [← hf]; simp [Value.ownBlock])
              · simp [Value.ownBlock] at hg2
                subst hg2
                exact Or.inr hg3
            · exact Or.inr (by omega)
          have hg2 : g' = g ∨ wr.heap.size ≤ g' := by
            rcases Hfr.out with hf | ⟨g2, hg2, hg3⟩
            · simp [Value.ownBlock] at hf
              exact Or.inl hf
            · simp [Value.ownBlock] at hg2
              subst hg2
              exact Or.inr hg3
          refine ⟨(Mvg.mk hset hm3.nd hm3.there hm3.rch (hm3.sn.next hi' (fun _ => by rw [Hye'.out]; exact Hg.out.has)) hi').kp ((Kp.refl [] _).drew) (by simp) (by simp) (by simp), ?_, ?_, fun y hy => Hg.out.sub y (HL.out.s y hy), fun y hy => (Hg.out.same_fw _ tf y (HL.out.s y hy)).trans (HL.out.e y hy)⟩
          · refine (((HL.out.k.then HK3.out ?_).then hKf ?_)).drew
            · intro k hk
              simp [Value.ownBlock] at hk
              rcases hk with hk | hk | hk
              · exact Or.inl (by simp [hk])
              · exact Or.inl (by simp; exact Or.inr (Or.inl hk))
              · exact hg1 k (Or.inl hk)
            · intro k hk
              simp at hk
              subst hk
              exact hg1 k hg2
          · rcases hg2 with e | e
            · rcases HL.out.f with hf | ⟨g2, hg3, hg4⟩
              · exact Or.inl (by rw [← hf, e]; rfl)
              · simp [Value.ownBlock] at hg3
                exact Or.inr ⟨g', rfl, by omega⟩
            · exact Or.inr ⟨g', rfl, by omega⟩
        have f0 := hgf (i * 5)
        have f1 := hgf (i * 5 + 1)
        have f2 := hgf (i * 5 + 2)
        have f3 := hgf (i * 5 + 3)
        have f4 := hgf (i * 5 + 4)
        have hlt2 : (i : Int) < ((scan (docOf a ts) tf V' i).length : Nat) := by omega
        have HV : Hid (i < (raw (docOf a ts) V').length) := hi'
        clear hKf hset hmv hil HK3 Hfr hm3 Hg Hye' Hsl' hsy' HL HN HN2 Hk1 Hbx hgf hbx3 Hc hgl hmbl
        unfold put5 at Q
        simp only at Q
        obtain ⟨N', hN'⟩ : ∃ N', N' = (scan (docOf a ts) tf V' i).length := ⟨_, rfl⟩
        obtain ⟨F, hF⟩ : ∃ F, F = fw (docOf a ts) tf V' y.n := ⟨_, rfl⟩
        rw [← hN'] at hlt2 c5 hcap Q
        rw [← hF] at b0 Q ⊢
        clear hN' hF hi'
        have D0 : w3.drew.cell? ⟨g', i * 5, none⟩ = some (.int .i64 y.n) := d0
        have D1 : w3.drew.cell? ⟨g', i * 5 + 1, none⟩ = some (.int .i32 y.moved) := d1
        have D2 : w3.drew.cell? ⟨g', i * 5 + 2, none⟩ = some (.int .u16 y.tag) := d2
        have D3 : w3.drew.cell? ⟨g', i * 5 + 3, none⟩ = some (.int .u8 y.kind) := d3
        have D4 : w3.drew.cell? ⟨g', i * 5 + 4, none⟩ = some (.int .u8 y.part) := d4
        have B0 : w3.drew.cell? ⟨wr.heap.size, 0, none⟩ = some (.int .i64 F) := b0
        have B1 : w3.drew.cell? ⟨wr.heap.size, 1, none⟩ = some (.int .i32 y.moved) := b1
        have B2 : w3.drew.cell? ⟨wr.heap.size, 2, none⟩ = some (.int .u16 y.tag) := b2
        have B3 : w3.drew.cell? ⟨wr.heap.size, 3, none⟩ = some (.int .u8 y.kind) := b3
        have B4 : w3.drew.cell? ⟨wr.heap.size, 4, none⟩ = some (.int .u8 y.part) := b4
        have C5 : w3.drew.cell? ⟨mb, 5, none⟩ = some (.slice (some ⟨g', 0, none⟩) N' cap') := c5
        go_region
        generalize (((((w3.setCell ⟨g', i * 5, none⟩ (.int .i64 F)).setCell ⟨g', i * 5 + 1, none⟩ (.int .i32 y.moved)).setCell ⟨g', i * 5 + 2, none⟩ (.int .u16 y.tag)).setCell ⟨g', i * 5 + 3, none⟩ (.int .u8 y.kind)).setCell ⟨g', i * 5 + 4, none⟩ (.int .u8 1)).drew = w4 at *
        clear d0 d1 d2 d3 d4 b0 b1 b2 b3 b4 b5 f0 f1 f2 f3 f4 c5 D0 D1 D2 D3 D4 B0 B1 B2 B3 B4 C5
        go_wp2
        go_roundg (1000000 - (i + 1))
        case measure => omega
        case rel => exact ⟨i + 1, V', _, by first | rfl | (congr 1; omega) | go_num, by omega, rfl, Q.out⟩
      · have hp1 : (y.part == 1) = false := by simpa using hp
        have hsc : scan (docOf a ts) tf V (i + 1) = scan (docOf a ts) tf V i := by
          rw [scan_next _ tf V i hi, hye]
          have : mvW (fw (docOf a ts) tf V) y = y := by unfold mvW; rw [if_neg hp]
          rw [this]
          obtain ⟨hl2, he2⟩ := List.getElem?_eq_some_iff.1 hsy
          rw [← he2, List.set_getElem_self]
        have Q : Hid (FS w mb cells a tf ts rs fv tv0 V0 w1 (.slice (some ⟨g, 0, none⟩) N cap) V (i + 1)) := by
          have hm := HL.out.m.kp Hk1.out (by simp) (by simp) (by simp)
          exact ⟨⟨by rw [hsc]; exact hm.mem, hm.nd, hm.there, hm.rch, hm.sn.next hi (fun h => absurd (hye ▸ h) hp), hi⟩, HL.out.k.trans (Hk1.out.mono (by simp)), HL.out.f, HL.out.s, HL.out.e⟩
        clear hsc Hk1 Hbx HN HN2 HL hsy hye hy hp Hc
        go_wp2
        go_roundg (1000000 - (i + 1))
        case measure => omega
        case rel => exact ⟨i + 1, V, _, by first | rfl | (congr 1; omega) | go_num, by omega, rfl, Q.out⟩
    · have hie : i = (raw (docOf a ts) V).length := by have := HL.out.m.le; omega
      obtain ⟨q, cap, rfl, c5, hl⟩ := HL.out.m.mem.toCell
      have hn : ¬ ((i : Int) < ((scan (docOf a ts) tf V i).length : Nat)) := by rw [hsl]; omega
      have Q : Hid (FieldsPost w mb cells a tf ts rs fv tv0 V0 (.returned (.tuple #[])) wr) := FieldsPost.mk wr _ V (hie ▸ HL.out)
      clear hsl hrl hie HL H0
      generalize (scan (docOf a ts) tf V i).length = N at *
      go_wp2_with fail
      go_end0
      exact Q.out
end
end Go.Proofs.Ytfeopoamednidaa
