/-
  Collect.
-/
import Derived.Test.YtfeopoamednidaaM7
import Derived.Laws.MakeOwn
namespace Go.Proofs.Ytfeopoamednidaa
open Go.RowKit Go.Deep Go.IntWalk
theorem mkV_nil (P : Doc) : mkV P [] = fun _ => 0 := by funext x; simp [mkV]
/-- The beginning of moving. -/
structure MvInit (w : World) (cells a tf : Int) (ts : List Th) (rs : List Cl) (fv : Value) (mb : Nat) (tv0 : Value) (g : Nat) (W : World) : Prop where
  m : Mvg W mb cells a tf ts rs fv tv0 [] 0
  b : Below w.heap.size w W
  h1 : w.heap.size ≤ mb
  h2 : tv0.ownBlock = some g
  h3 : w.heap.size ≤ g
theorem run_make41 (w : World) (n : Nat) (hn : n ≤ 1000000) : ∃ cur : Array Value, cur.size = n * 5 ∧ (Instr.makeSlice 41 (.int .i64 0) (.int .i64 n)).run Try.prog w = .ok (.slice (some ⟨w.heap.size, 0, none⟩) 0 n) (w.alloc (.cells cur 79)) := by
  obtain ⟨i0, hi0, hz0, hz1, hz2⟩ := info_parts infos79
  have h := run_make (P := Try.prog) w 41 79 i0 _ slice41 hi0 hz0 .i64 .i64 0 (n : Int) (by omega) (by omega) (by rw [hz2]; omega) (by omega)
  refine ⟨_, ?_, h⟩
  simp [madeCells, hz1]
theorem own_made (w : World) (cur : Array Value) (n : Nat) (hn : n ≤ 1000000) (hc : cur.size = n * 5) : OwnW (w.alloc (.cells cur 79)) (.slice (some ⟨w.heap.size, 0, none⟩) 0 n) [] :=
  World.ownsRow_made w cur n (Nat.zero_le _) (by unfold maxLen; omega) hc
def put6 (w : World) (b : Nat) (v0 v1 v2 v3 v4 v5 : Value) : World := (((((w.setCell ⟨b, 0, none⟩ v0).setCell ⟨b, 1, none⟩ v1).setCell ⟨b, 2, none⟩ v2).setCell ⟨b, 3, none⟩ v3).setCell ⟨b, 4, none⟩ v4).setCell ⟨b, 5, none⟩ v5
theorem put6_kp (w : World) (b : Nat) (v0 v1 v2 v3 v4 v5 : Value) : Kp [b] w (put6 w b v0 v1 v2 v3 v4 v5) :=
  (((((Kp.setCell _ ⟨b, _, none⟩ (by simp) _).trans (Kp.setCell _ ⟨b, _, none⟩ (by simp) _)).trans (Kp.setCell _ ⟨b, _, none⟩ (by simp) _)).trans (Kp.setCell _ ⟨b, _, none⟩ (by simp) _)).trans (Kp.setCell _ ⟨b, _, none⟩ (by simp) _)).trans (Kp.setCell _ ⟨b, _, none⟩ (by simp) _)
theorem put6_get {w : World} {b : Nat} {a0 a1 a2 a3 a4 a5 : Value} {ty : TypeId} (h : w.heap[b]? = some (.cells #[a0, a1, a2, a3, a4, a5] ty)) (v0 v1 v2 v3 v4 v5 : Value) : (put6 w b v0 v1 v2 v3 v4 v5).heap[b]? = some (.cells #[v0, v1, v2, v3, v4, v5] ty) := by
  simp [put6, World.setCell, Array.getElem?_modify, h]
/-- Moving begins. -/
theorem mv_init {w W : World} {hb : Nat} {cells first : Int} {v : Value} {ts : List Th} (h : HpO w hb cells first v (encL (fun _ => 0) first ts)) (hB : Below w.heap.size w W) (hf : first ≤ 8000000000000000000) {r n mb : Nat} {a0 a1 a2 a3 a4 a5 : Value} (hr : OwnW W (.slice (some ⟨r, 0, none⟩) 0 n) []) (hrs : w.heap.size ≤ r) (hmb : W.heap[mb]? = some (.cells #[a0, a1, a2, a3, a4, a5] 70)) (hms : w.heap.size ≤ mb) (rs : List Cl) :
    MvInit w cells first (first + total ts) ts rs v mb (.slice (some ⟨r, 0, none⟩) 0 n) r (put6 W mb (.int .i64 cells) (.int .i64 first) v (.int .i64 cells) (.int .i64 (first + total ts)) (.slice (some ⟨r, 0, none⟩) 0 n)) := by
  have hlen := h.len
  rw [encL_len] at hlen
  have hrl : r < W.heap.size := hr.lt rfl
  have hrm : r ≠ mb := fun e => hr.ne hmb (by decide) (e ▸ rfl)
  have hk : Kp [mb] W (put6 W mb (.int .i64 cells) (.int .i64 first) v (.int .i64 cells) (.int .i64 (first + total ts)) (.slice (some ⟨r, 0, none⟩) 0 n)) := put6_kp _ _ _ _ _ _ _ _
  have hk2 : Kp [mb] w (put6 W mb (.int .i64 cells) (.int .i64 first) v (.int .i64 cells) (.int .i64 (first + total ts)) (.slice (some ⟨r, 0, none⟩) 0 n)) := (Kp.of_below hB).then hk (by simp)
  refine MvInit.mk ⟨⟨put6_get hmb _ _ _ _ _ _, ?_, hr.kp hk (by intro k hk; cases hk; simpa using hrm), ?_, ?_, by simp [scan, raw], h.pos, by have := h.pos; omega⟩, by simp, by simp, by simp, by intro w hw; simp [raw] at hw, by simp⟩ (hk2.below (Nat.le_refl _) (by simpa using hms)) hms rfl hrs
  · rw [mkV_nil]
    exact h.own.kp hk2 (fun k hk => by have := h.own.lt hk; simp; omega)
  · intro k hk e
    have := h.own.lt hk
    simp [Value.ownBlock] at e
    omega
  · rw [encL_len]
    exact hlen
inductive CollectPost (w : World) (hb : Nat) (cells first : Int) (v : Value) (ts : List Th) (rs : List Cl) (base : Nat) (rv : Value) : Ending → World → Prop
  | mk (V : List Int) (v' : Value) (w' : World) (hn : V.Nodup) (hV : ∀ x, x ∈ V ↔ Reach (docOf first ts) rs x) (hs : ∀ x ∈ V, (docOf first ts x).isSome = true)
      (hh : HpO w' hb cells (first + total ts) v' (encL (fun _ => 0) (first + total ts) (V.map (fun x => mvT (fw (docOf first ts) (first + total ts) V) (thP (docOf first ts) x)))))
      (hr : OwnC w' base rv (rs.map (mvC (fw (docOf first ts) (first + total ts) V)))) (hk : Kp ([hb] ++ v.ownBlock.toList ++ rv.ownBlock.toList) w w') (hf : ∃ g, v'.ownBlock = some g ∧ w.heap.size ≤ g) :
      CollectPost w hb cells first v ts rs base rv (.returned (.int .i64 (cellsT (docOf first ts) V : Nat))) w'
theorem all_reached {P : Doc} {rs : List Cl} {V : List Int} (hr : ∀ x, ⟨true, x⟩ ∈ rs → x ∈ V) (hs : Sn P V (raw P V).length) : ∀ x, Reach P rs x → x ∈ V := by
  intro x hx
  induction hx with
  | root b h => exact hr b h
  | field a b t _ ht hf ih =>
    have hm : fld ⟨true, b⟩ ∈ raw P V := by
      refine List.mem_flatMap.2 ⟨a, ih, ?_⟩
      unfold encT thP
      rw [ht]
      exact List.mem_cons_of_mem _ (List.mem_map.2 ⟨_, hf, rfl⟩)
    exact hs _ (by rw [List.take_length]; exact hm) rfl
def put3 (w : World) (b : Nat) (v0 v1 v2 : Value) : World := ((w.setCell ⟨b, 0, none⟩ v0).setCell ⟨b, 1, none⟩ v1).setCell ⟨b, 2, none⟩ v2
theorem put3_kp (w : World) (b : Nat) (v0 v1 v2 : Value) : Kp [b] w (put3 w b v0 v1 v2) := ((Kp.setCell _ ⟨b, _, none⟩ (by simp) _).trans (Kp.setCell _ ⟨b, _, none⟩ (by simp) _)).trans (Kp.setCell _ ⟨b, _, none⟩ (by simp) _)
theorem put3_get {w : World} {b : Nat} {a0 a1 a2 : Value} {ty : TypeId} (h : w.heap[b]? = some (.cells #[a0, a1, a2] ty)) (v0 v1 v2 : Value) : (put3 w b v0 v1 v2).heap[b]? = some (.cells #[v0, v1, v2] ty) := by
  simp [put3, World.setCell, Array.getElem?_modify, h]
/-- Behind the move. -/
structure CE (w : World) (hb mb : Nat) (cells first tf : Int) (ts : List Th) (rs : List Cl) (v tv : Value) (base : Nat) (rv : Value) (W : World) (V : List Int) : Prop where
  m : Mvg W mb cells first tf ts rs v tv V (raw (docOf first ts) V).length
  box : W.heap[hb]? = some (.cells #[.int .i64 cells, .int .i64 first, v] 43)
  r : OwnC W base rv (rs.map (mvC (fw (docOf first ts) tf V)))
  k : Kp (v.ownBlock.toList ++ rv.ownBlock.toList) w W
  f : ∃ g, tv.ownBlock = some g ∧ w.heap.size ≤ g
  a : ∀ x, Reach (docOf first ts) rs x → x ∈ V
theorem ce_of {w wc w5 w6 : World} {hb mb : Nat} {cells first tf : Int} {ts : List Th} {rs : List Cl} {v tv0 tv tv' : Value} {base : Nat} {rv : Value} {g0 : Nat} {V V' : List Int} (h : HpO w hb cells first v (encL (fun _ => 0) first ts)) (hr : OwnC w base rv rs) (hI : MvInit w cells first tf ts rs v mb tv0 g0 wc) (hR : RS wc mb cells first tf ts rs v tv0 base rv w5 tv V rs.length) (hF : FS w5 mb cells first tf ts rs v tv V w6 tv' V' (raw (docOf first ts) V').length) : CE w hb mb cells first tf ts rs v tv' base rv w6 V' := by
  have hwc := hI.b.size
  have hw5 := hR.k.size
  have hbl := (Array.getElem?_eq_some_iff.1 h.box).1
  have hg5 : ∃ g, tv.ownBlock = some g ∧ w.heap.size ≤ g := by
    rcases hR.f with e | ⟨g, e1, e2⟩
    · exact ⟨g0, e.trans hI.h2, hI.h3⟩
    · exact ⟨g, e1, by omega⟩
  obtain ⟨g5, hg51, hg52⟩ := hg5
  have hk5 : Kp (v.ownBlock.toList ++ rv.ownBlock.toList) w w5 := (Kp.of_below hI.b).then hR.k (fun y hy => by
    simp at hy
    rcases hy with hy | hy | hy | hy
    · exact Or.inr (by have := hI.h1; omega)
    · exact Or.inl (by simp; exact Or.inl hy)
    · rw [hI.h2] at hy
      cases hy
      exact Or.inr hI.h3
    · exact Or.inl (by simp; exact Or.inr hy))
  have hk6 : Kp (v.ownBlock.toList ++ rv.ownBlock.toList) w w6 := hk5.then hF.k (fun y hy => by
    simp at hy
    rcases hy with hy | hy | hy
    · exact Or.inr (by have := hI.h1; omega)
    · exact Or.inl (by simp; exact Or.inl hy)
    · rw [hg51] at hy
      cases hy
      exact Or.inr hg52)
  have hs : ∀ x, ⟨true, x⟩ ∈ rs → x ∈ V := fun x hx => hR.s x (by rw [List.take_length]; exact hx)
  refine ⟨hF.m, (hk6.block hb hbl ?_).trans h.box, ?_, hk6, ?_, all_reached (fun x hx => hF.s x (hs x hx)) hF.m.sn⟩
  · simp
    exact ⟨fun e => h.own.ne h.box (by decide) e, fun e => hr.ne50 h.box (by simp) e⟩
  · have e : rmap (docOf first ts) tf V rs rs.length = rs.map (mvC (fw (docOf first ts) tf V')) := by
      rw [rmap_all]
      refine List.map_congr_left (fun c hc => ?_)
      obtain ⟨p, n⟩ := c
      cases p
      · rfl
      · unfold mvC
        simp only [if_pos]
        rw [hF.e n (hs n hc)]
    rw [← e]
    refine hR.r.keep (fun k hk => hF.k.block k (hR.r.block k hk).2 ?_)
    obtain ⟨cur, hcur⟩ := hR.r.obj hk
    simp
    refine ⟨fun e => ?_, fun e => hR.m.mem.fown.ne hcur (by decide) e, fun e => hR.m.mem.town.ne hcur (by decide) e⟩
    have := hR.m.mem.box
    rw [← e, hcur] at this
    simp at this
  · rcases hF.f with e | ⟨g, e1, e2⟩
    · exact ⟨g5, e.trans hg51, hg52⟩
    · exact ⟨g, e1, by omega⟩
theorem ce_post {w : World} {hb mb : Nat} {cells first : Int} {ts : List Th} {rs : List Cl} {v tv : Value} {base : Nat} {rv : Value} {W : World} {V : List Int} (h : HpO w hb cells first v (encL (fun _ => 0) first ts)) (hf : first ≤ 8000000000000000000) (hC : CE w hb mb cells first (first + total ts) ts rs v tv base rv W V) :
    CollectPost w hb cells first v ts rs base rv (.returned (.int .i64 (cellsT (docOf first ts) V : Nat))) (put3 W hb (.int .i64 cells) (.int .i64 (first + total ts)) tv) := by
  have hk : Kp [hb] W (put3 W hb (.int .i64 cells) (.int .i64 (first + total ts)) tv) := put3_kp _ _ _ _ _
  have hbl := (Array.getElem?_eq_some_iff.1 h.box).1
  have htot : total ts ≤ 1000000 := by have := h.len; rwa [encL_len] at this
  have hpos := h.pos
  have hcl := cells_le hC.m.nd hC.m.there
  obtain ⟨g, hg1, hg2⟩ := hC.f
  refine CollectPost.mk V tv _ hC.m.nd (fun x => ⟨hC.m.rch x, hC.a x⟩) hC.m.there ⟨put3_get hC.box _ _ _, ?_, ?_, by omega⟩ ?_ ?_ hC.f
  · rw [← scan_end]
    exact hC.m.mem.town.kp hk (fun k hk2 => by rw [hg1] at hk2; cases hk2; simp; omega)
  · rw [← scan_end, scan_len, raw_len]
    omega
  · refine hC.r.keep (fun k hk2 => hk.block k (hC.r.block k hk2).2 ?_)
    simp
    exact fun e => hC.r.ne50 hC.box (by simp) (e ▸ hk2)
  · refine (hC.k.mono (by simp; exact fun a h => by rcases h with h | h; exact Or.inr (Or.inl h); exact Or.inr (Or.inr h))).then hk (by simp)
section
set_option maxHeartbeats 8000000
set_option maxRecDepth 100000
theorem collect_any (w : World) (hb : Nat) (cells first : Int) (v : Value) (ts : List Th) (h : HpO w hb cells first v (encL (fun _ => 0) first ts)) (hf : first ≤ 8000000000000000000) (hc : Closed first ts) (rs : List Cl) (hro : RootsOk (docOf first ts) rs) (base : Nat) (rv : Value) (wb : Nat) (h0 h1 h3 : Value) (hW : w.heap[wb]? = some (.cells #[h0, h1, rv, h3] 34)) (hr : OwnC w base rv rs) (hl : rs.length ≤ 9000000000000) :
    Calls Try.prog 9 #[.pointer (some ⟨hb, 0, none⟩), .func (.func 10) #[.pointer (some ⟨wb, 0, none⟩)] #[]] w fun e w' => CollectPost w hb cells first v ts rs base rv e w' := by
  obtain ⟨p, cap, rfl, hA, ha⟩ := h.at
  have htot : total ts ≤ 1000000 := by have := h.len; rwa [encL_len] at this
  rw [encL_len] at *
  have H : Hid (HpO w hb cells first (.slice p (total ts) cap) (encL (fun _ => 0) first ts)) := h
  have Hall : Hid (∀ wx, Below w.heap.size w wx → wx.cell? ⟨hb, 0, none⟩ = some (.int .i64 cells) ∧ wx.cell? ⟨hb, 1, none⟩ = some (.int .i64 first) ∧ wx.cell? ⟨hb, 2, none⟩ = some (.slice p (total ts) cap) ∧ hb < wx.heap.size) := fun wx hk => by
    obtain ⟨c0, c1, c2, c3⟩ := (hA.kp (Kp.of_below (X := []) hk)).cells
    rw [encL_len] at c2
    exact ⟨c0, c1, c2, c3⟩
  have Hend : Hid (∀ wx, Below w.heap.size w wx → Calls Try.prog 22 #[.pointer (some ⟨hb, 0, none⟩)] wx fun e w' => e = .returned (.int .i64 (first + total ts)) ∧ Below wx.heap.size wx w') := fun wx hk => Calls.mono (end_any wx hb 0 cells first p cap _ (hA.kp (Kp.of_below (X := []) hk))) (fun e w' g => ⟨by rw [g.1, encL_len], g.2⟩)
  have Hc : Hid (Closed first ts) := hc
  have Hro : Hid (RootsOk (docOf first ts) rs) := hro
  have HW : Hid (w.heap[wb]? = some (.cells #[h0, h1, rv, h3] 34)) := hW
  have Hr : Hid (OwnC w base rv rs) := hr
  clear h hA ha hc hro hW hr
  go_enter Try.func9, Try.ntmps9
  go_upto_region 3 with fail
  go_cut [5] from 8 to 24 (fun t wx => ∃ mb r n, t = .pointer (some ⟨mb, 0, none⟩) ∧ Hid (MvInit w cells first (first + total ts) ts rs (.slice p (total ts) cap) mb (.slice (some ⟨r, 0, none⟩) 0 n) r wx))
  case first =>
    refine region_any (C := fun wx => Below w.heap.size w wx) (by kernel_rfl) ?_
    have HB0 : Hid (Below w.heap.size w w.drew) := (Below.refl _ _).drew
    generalize w.drew = wd at *
    refine anyIn_read (i := 0) rfl (by kernel_rfl) (by kernel_rfl) (by kernel_rfl) (fun _ _ _ _ h => h) ?_
    apply Exists.intro
    refine ⟨Or.inl ⟨by rfl, fun wx hwx => ?_⟩, ?_⟩
    (obtain ⟨c0, c1, c2, c3⟩ := Hall.out wx hwx; go_simp; first | done | with_reducible rfl)
    refine anyIn_read (i := 1) rfl (by kernel_rfl) (by kernel_rfl) (by kernel_rfl) (fun _ _ _ _ h => h) ?_
    apply Exists.intro
    refine ⟨Or.inl ⟨by rfl, fun wx hwx => ?_⟩, ?_⟩
    (obtain ⟨c0, c1, c2, c3⟩ := Hall.out wx hwx; go_simp; first | done | with_reducible rfl)
    refine anyIn_read (i := 2) rfl (by kernel_rfl) (by kernel_rfl) (by kernel_rfl) (fun _ _ _ _ h => h) ?_
    apply Exists.intro
    refine ⟨Or.inl ⟨by rfl, fun wx hwx => ?_⟩, ?_⟩
    (obtain ⟨c0, c1, c2, c3⟩ := Hall.out wx hwx; go_simp; first | done | with_reducible rfl)
    refine anyIn_read (i := 3) rfl (by kernel_rfl) (by kernel_rfl) (by kernel_rfl) (fun _ _ _ _ h => h) ?_
    apply Exists.intro
    refine ⟨Or.inl ⟨by rfl, fun wx hwx => ?_⟩, ?_⟩
    (obtain ⟨c0, c1, c2, c3⟩ := Hall.out wx hwx; go_simp; first | done | with_reducible rfl)
    refine anyIn_read (i := 4) rfl (by kernel_rfl) (by kernel_rfl) (by kernel_rfl) (fun _ _ _ _ h => h) ?_
    apply Exists.intro
    refine ⟨Or.inl ⟨by rfl, fun wx hwx => ?_⟩, ?_⟩
    (obtain ⟨c0, c1, c2, c3⟩ := Hall.out wx hwx; go_simp; first | done | with_reducible rfl)
    refine anyIn_read (i := 5) rfl (by kernel_rfl) (by kernel_rfl) (by kernel_rfl) (fun _ _ _ _ h => h) ?_
    apply Exists.intro
    refine ⟨Or.inl ⟨by rfl, fun wx hwx => ?_⟩, ?_⟩
    (obtain ⟨c0, c1, c2, c3⟩ := Hall.out wx hwx; go_simp; first | done | with_reducible rfl)
    refine anyIn_read (i := 6) rfl (by kernel_rfl) (by kernel_rfl) (by kernel_rfl) (fun _ _ _ _ h => h) ?_
    apply Exists.intro
    refine ⟨Or.inl ⟨by rfl, fun wx hwx => ?_⟩, ?_⟩
    (obtain ⟨c0, c1, c2, c3⟩ := Hall.out wx hwx; go_simp; first | done | with_reducible rfl)
    refine anyIn_read (i := 7) rfl (by kernel_rfl) (by kernel_rfl) (by kernel_rfl) (fun _ _ _ _ h => h) ?_
    apply Exists.intro
    refine ⟨Or.inl ⟨by rfl, fun wx hwx => ?_⟩, ?_⟩
    (obtain ⟨c0, c1, c2, c3⟩ := Hall.out wx hwx; go_simp; first | done | with_reducible rfl)
    refine anyIn_read (i := 9) rfl (by kernel_rfl) (by kernel_rfl) (by kernel_rfl) (fun _ _ _ _ h => h) ?_
    apply Exists.intro
    refine ⟨Or.inl ⟨by rfl, fun wx hwx => ?_⟩, ?_⟩
    (obtain ⟨c0, c1, c2, c3⟩ := Hall.out wx hwx; go_simp; first | done | with_reducible rfl)
    refine anyIn_read (i := 10) rfl (by kernel_rfl) (by kernel_rfl) (by kernel_rfl) (fun _ _ _ _ h => h) ?_
    apply Exists.intro
    refine ⟨Or.inl ⟨by rfl, fun wx hwx => ?_⟩, ?_⟩
    (obtain ⟨c0, c1, c2, c3⟩ := Hall.out wx hwx; go_simp; first | done | with_reducible rfl)
    refine anyIn_read (i := 11) rfl (by kernel_rfl) (by kernel_rfl) (by kernel_rfl) (fun _ _ _ _ h => h) ?_
    apply Exists.intro
    refine ⟨Or.inl ⟨by rfl, fun wx hwx => ?_⟩, ?_⟩
    (obtain ⟨c0, c1, c2, c3⟩ := Hall.out wx hwx; go_simp; first | done | with_reducible rfl)
    refine anyIn_read (i := 12) rfl (by kernel_rfl) (by kernel_rfl) (by kernel_rfl) (fun _ _ _ _ h => h) ?_
    apply Exists.intro
    refine ⟨Or.inl ⟨by rfl, fun wx hwx => ?_⟩, ?_⟩
    (obtain ⟨c0, c1, c2, c3⟩ := Hall.out wx hwx; go_simp; first | done | with_reducible rfl)
    refine anyIn_read (i := 13) rfl (by kernel_rfl) (by kernel_rfl) (by kernel_rfl) (fun _ _ _ _ h => h) ?_
    apply Exists.intro
    refine ⟨Or.inl ⟨by rfl, fun wx hwx => ?_⟩, ?_⟩
    (obtain ⟨c0, c1, c2, c3⟩ := Hall.out wx hwx; go_simp; first | done | with_reducible rfl)
    go_simp
    refine anyIn_all (rs := [8, 14, 17]) HB0.out (by kernel_rfl) (by simp) ?_
    intro i hi
    have hi3 : i = 8 ∨ i = 14 ∨ i = 17 := by simpa using hi
    clear hi
    rcases hi3 with rfl | rfl | rfl
    · refine anyIn_op (o := ?o1) ?ha1 ?hb1
      case ha1 => rfl
      intro K hK
      go_simp
      refine Calls.mono (Hend.out _ HB0.out) ?_
      rintro e w1 ⟨rfl, hb1⟩
      refine hK _ _ ?_
      clear hK K
      have HB1 : Hid (Below w.heap.size w w1) := HB0.out.trans (hb1.mono HB0.out.size)
      clear hb1
      refine anyIn_all (rs := [14, 17]) HB1.out (by kernel_rfl) (by simp) ?_
      intro i hi
      have hi3 : i = 14 ∨ i = 17 := by simpa using hi
      clear hi
      rcases hi3 with rfl | rfl
      · refine anyIn_op (o := ?o2) ?ha2 ?hb2
        case ha2 => rfl
        intro K hK
        obtain ⟨cur, hcs, hrun⟩ := run_make41 w1 (total ts) htot
        go_simp
        refine hK _ _ ?_
        clear hK K hrun
        have hal : Kp [] w1 ((w1).alloc (.cells cur 79)) := Kp.alloc [] w1 _
        have HB2 : Hid (Below w.heap.size w ((w1).alloc (.cells cur 79))) := HB1.out.trans (hal.below HB1.out.size (by simp))
        have Hown2 : Hid (OwnW ((w1).alloc (.cells cur 79)) (.slice (some ⟨(w1).heap.size, 0, none⟩) 0 (total ts)) []) := own_made w1 cur (total ts) htot hcs
        have Hr : Hid (w.heap.size ≤ (w1).heap.size) := HB1.out.size
        clear hal hcs
        generalize (w1).alloc (.cells cur 79) = w2 at *
        generalize (w1).heap.size = r at *
        refine anyIn_read (i := 15) rfl (by kernel_rfl) (by kernel_rfl) (by kernel_rfl) (fun _ _ _ _ h => h) ?_
        apply Exists.intro
        refine ⟨Or.inl ⟨by rfl, fun wx hwx => ?_⟩, ?_⟩
        (go_simp; first | done | with_reducible rfl)
        refine anyIn_read (i := 16) rfl (by kernel_rfl) (by kernel_rfl) (by kernel_rfl) (fun _ _ _ _ h => h) ?_
        apply Exists.intro
        refine ⟨Or.inl ⟨by rfl, fun wx hwx => ?_⟩, ?_⟩
        (go_simp; first | done | with_reducible rfl)
        go_simp
        refine anyIn_one (i := 17) (o := ?o3) HB2.out ?ha3 (by kernel_rfl) ?hb3
        case ha3 => rfl
        intro K hK
        go_simp
        refine hK _ _ ?_
        clear hK K
        have hal : Kp [] w2 ((w2).alloc (.cells #[.int .i64 0, .int .i64 0, .slice none 0 0, .int .i64 0, .int .i64 0, .slice none 0 0] 70)) := Kp.alloc [] w2 _
        have HB3 : Hid (Below w.heap.size w ((w2).alloc (.cells #[.int .i64 0, .int .i64 0, .slice none 0 0, .int .i64 0, .int .i64 0, .slice none 0 0] 70))) := HB2.out.trans (hal.below HB2.out.size (by simp))
        have Hbox3 : Hid (((w2).alloc (.cells #[.int .i64 0, .int .i64 0, .slice none 0 0, .int .i64 0, .int .i64 0, .slice none 0 0] 70)).heap[(w2).heap.size]? = some (.cells #[.int .i64 0, .int .i64 0, .slice none 0 0, .int .i64 0, .int .i64 0, .slice none 0 0] 70)) := alloc_get w2 _
        have Hmb : Hid (w.heap.size ≤ (w2).heap.size) := HB2.out.size
        have Hown3 : Hid (OwnW ((w2).alloc (.cells #[.int .i64 0, .int .i64 0, .slice none 0 0, .int .i64 0, .int .i64 0, .slice none 0 0] 70)) (.slice (some ⟨r, 0, none⟩) 0 (total ts)) []) := Hown2.out.kp hal (by simp)
        clear hal
        generalize (w2).alloc (.cells #[.int .i64 0, .int .i64 0, .slice none 0 0, .int .i64 0, .int .i64 0, .slice none 0 0] 70) = w3 at *
        generalize (w2).heap.size = mb at *
        have HI : Hid (MvInit w cells first (first + total ts) ts rs (.slice p (total ts) cap) mb (.slice (some ⟨r, 0, none⟩) 0 (total ts)) r (put6 w3 mb (.int .i64 cells) (.int .i64 first) (.slice p (total ts) cap) (.int .i64 cells) (.int .i64 (first + total ts)) (.slice (some ⟨r, 0, none⟩) 0 (total ts)))) := mv_init H.out HB3.out hf Hown3.out Hr.out Hbox3.out Hmb.out rs
        have hbx := Hbox3.out
        have HBz : Hid (Below w.heap.size w w3) := HB3.out
        have hlt := (Array.getElem?_eq_some_iff.1 hbx).1
        have x0 : w3.cell? ⟨mb, 0, none⟩ = some (.int .i64 0) := by simp only [World.cell?, hbx]; rfl
        have y0 : w3.frozen? ⟨mb, 0, none⟩ = false := by simp only [World.frozen?, hbx]; rfl
        have x1 : w3.cell? ⟨mb, 1, none⟩ = some (.int .i64 0) := by simp only [World.cell?, hbx]; rfl
        have y1 : w3.frozen? ⟨mb, 1, none⟩ = false := by simp only [World.frozen?, hbx]; rfl
        have x2 : w3.cell? ⟨mb, 2, none⟩ = some (.slice none 0 0) := by simp only [World.cell?, hbx]; rfl
        have y2 : w3.frozen? ⟨mb, 2, none⟩ = false := by simp only [World.frozen?, hbx]; rfl
        have x3 : w3.cell? ⟨mb, 3, none⟩ = some (.int .i64 0) := by simp only [World.cell?, hbx]; rfl
        have y3 : w3.frozen? ⟨mb, 3, none⟩ = false := by simp only [World.frozen?, hbx]; rfl
        have x4 : w3.cell? ⟨mb, 4, none⟩ = some (.int .i64 0) := by simp only [World.cell?, hbx]; rfl
        have y4 : w3.frozen? ⟨mb, 4, none⟩ = false := by simp only [World.frozen?, hbx]; rfl
        have x5 : w3.cell? ⟨mb, 5, none⟩ = some (.slice none 0 0) := by simp only [World.cell?, hbx]; rfl
        have y5 : w3.frozen? ⟨mb, 5, none⟩ = false := by simp only [World.frozen?, hbx]; rfl
        clear hbx
        refine anyIn_one (i := 18) HBz.out rfl (by kernel_rfl) (fun K hK => ?_)
        unfold put6 at HI
        go_simp
        refine hK _ _ ?_
        clear hK K
        refine anyIn_done HI.out.b (by kernel_rfl) ?_
        go_wp2_with fail
        go_meet
        exact ⟨mb, r, _, rfl, HI⟩
      · refine anyIn_op (o := ?o4) ?ha4 ?hb4
        case ha4 => rfl
        intro K hK
        go_simp
        refine hK _ _ ?_
        clear hK K
        have hal : Kp [] w1 ((w1).alloc (.cells #[.int .i64 0, .int .i64 0, .slice none 0 0, .int .i64 0, .int .i64 0, .slice none 0 0] 70)) := Kp.alloc [] w1 _
        have HB2 : Hid (Below w.heap.size w ((w1).alloc (.cells #[.int .i64 0, .int .i64 0, .slice none 0 0, .int .i64 0, .int .i64 0, .slice none 0 0] 70))) := HB1.out.trans (hal.below HB1.out.size (by simp))
        have Hbox2 : Hid (((w1).alloc (.cells #[.int .i64 0, .int .i64 0, .slice none 0 0, .int .i64 0, .int .i64 0, .slice none 0 0] 70)).heap[(w1).heap.size]? = some (.cells #[.int .i64 0, .int .i64 0, .slice none 0 0, .int .i64 0, .int .i64 0, .slice none 0 0] 70)) := alloc_get w1 _
        have Hmb : Hid (w.heap.size ≤ (w1).heap.size) := HB1.out.size
        clear hal
        generalize (w1).alloc (.cells #[.int .i64 0, .int .i64 0, .slice none 0 0, .int .i64 0, .int .i64 0, .slice none 0 0] 70) = w2 at *
        generalize (w1).heap.size = mb at *
        refine anyIn_one (i := 14) (o := ?o5) HB2.out ?ha5 (by kernel_rfl) ?hb5
        case ha5 => rfl
        intro K hK
        obtain ⟨cur, hcs, hrun⟩ := run_make41 w2 (total ts) htot
        go_simp
        refine hK _ _ ?_
        clear hK K hrun
        have hal : Kp [] w2 ((w2).alloc (.cells cur 79)) := Kp.alloc [] w2 _
        have HB3 : Hid (Below w.heap.size w ((w2).alloc (.cells cur 79))) := HB2.out.trans (hal.below HB2.out.size (by simp))
        have Hown3 : Hid (OwnW ((w2).alloc (.cells cur 79)) (.slice (some ⟨(w2).heap.size, 0, none⟩) 0 (total ts)) []) := own_made w2 cur (total ts) htot hcs
        have Hr : Hid (w.heap.size ≤ (w2).heap.size) := HB2.out.size
        have Hbox3 : Hid (((w2).alloc (.cells cur 79)).heap[mb]? = some (.cells #[.int .i64 0, .int .i64 0, .slice none 0 0, .int .i64 0, .int .i64 0, .slice none 0 0] 70)) := (hal.block mb (Array.getElem?_eq_some_iff.1 Hbox2.out).1 (by simp)).trans Hbox2.out
        clear hal hcs
        generalize (w2).alloc (.cells cur 79) = w3 at *
        generalize (w2).heap.size = r at *
        refine anyIn_one (i := 15) HB3.out rfl (by kernel_rfl) (fun K hK => ?_)
        go_simp
        refine hK _ _ ?_
        clear hK K
        refine anyIn_one (i := 16) HB3.out rfl (by kernel_rfl) (fun K hK => ?_)
        go_simp
        refine hK _ _ ?_
        clear hK K
        have HI : Hid (MvInit w cells first (first + total ts) ts rs (.slice p (total ts) cap) mb (.slice (some ⟨r, 0, none⟩) 0 (total ts)) r (put6 w3 mb (.int .i64 cells) (.int .i64 first) (.slice p (total ts) cap) (.int .i64 cells) (.int .i64 (first + total ts)) (.slice (some ⟨r, 0, none⟩) 0 (total ts)))) := mv_init H.out HB3.out hf Hown3.out Hr.out Hbox3.out Hmb.out rs
        have hbx := Hbox3.out
        have HBz : Hid (Below w.heap.size w w3) := HB3.out
        have hlt := (Array.getElem?_eq_some_iff.1 hbx).1
        have x0 : w3.cell? ⟨mb, 0, none⟩ = some (.int .i64 0) := by simp only [World.cell?, hbx]; rfl
        have y0 : w3.frozen? ⟨mb, 0, none⟩ = false := by simp only [World.frozen?, hbx]; rfl
        have x1 : w3.cell? ⟨mb, 1, none⟩ = some (.int .i64 0) := by simp only [World.cell?, hbx]; rfl
        have y1 : w3.frozen? ⟨mb, 1, none⟩ = false := by simp only [World.frozen?, hbx]; rfl
        have x2 : w3.cell? ⟨mb, 2, none⟩ = some (.slice none 0 0) := by simp only [World.cell?, hbx]; rfl
        have y2 : w3.frozen? ⟨mb, 2, none⟩ = false := by simp only [World.frozen?, hbx]; rfl
        have x3 : w3.cell? ⟨mb, 3, none⟩ = some (.int .i64 0) := by simp only [World.cell?, hbx]; rfl
        have y3 : w3.frozen? ⟨mb, 3, none⟩ = false := by simp only [World.frozen?, hbx]; rfl
        have x4 : w3.cell? ⟨mb, 4, none⟩ = some (.int .i64 0) := by simp only [World.cell?, hbx]; rfl
        have y4 : w3.frozen? ⟨mb, 4, none⟩ = false := by simp only [World.frozen?, hbx]; rfl
        have x5 : w3.cell? ⟨mb, 5, none⟩ = some (.slice none 0 0) := by simp only [World.cell?, hbx]; rfl
        have y5 : w3.frozen? ⟨mb, 5, none⟩ = false := by simp only [World.frozen?, hbx]; rfl
        clear hbx
        refine anyIn_one (i := 18) HBz.out rfl (by kernel_rfl) (fun K hK => ?_)
        unfold put6 at HI
        go_simp
        refine hK _ _ ?_
        clear hK K
        refine anyIn_done HI.out.b (by kernel_rfl) ?_
        go_wp2_with fail
        go_meet
        exact ⟨mb, r, _, rfl, HI⟩
    · refine anyIn_op (o := ?o6) ?ha6 ?hb6
      case ha6 => rfl
      intro K hK
      obtain ⟨cur, hcs, hrun⟩ := run_make41 wd (total ts) htot
      go_simp
      refine hK _ _ ?_
      clear hK K hrun
      have hal : Kp [] wd (wd.alloc (.cells cur 79)) := Kp.alloc [] wd _
      have HB1 : Hid (Below w.heap.size w (wd.alloc (.cells cur 79))) := HB0.out.trans (hal.below HB0.out.size (by simp))
      have Hown1 : Hid (OwnW (wd.alloc (.cells cur 79)) (.slice (some ⟨wd.heap.size, 0, none⟩) 0 (total ts)) []) := own_made wd cur (total ts) htot hcs
      have Hr : Hid (w.heap.size ≤ wd.heap.size) := HB0.out.size
      clear hal hcs
      generalize wd.alloc (.cells cur 79) = w1 at *
      generalize wd.heap.size = r at *
      refine anyIn_all (rs := [8, 17]) HB1.out (by kernel_rfl) (by simp) ?_
      intro i hi
      have hi3 : i = 8 ∨ i = 17 := by simpa using hi
      clear hi
      rcases hi3 with rfl | rfl
      · refine anyIn_op (o := ?o7) ?ha7 ?hb7
        case ha7 => rfl
        intro K hK
        go_simp
        refine Calls.mono (Hend.out _ HB1.out) ?_
        rintro e w2 ⟨rfl, hb2⟩
        refine hK _ _ ?_
        clear hK K
        have HB2 : Hid (Below w.heap.size w w2) := HB1.out.trans (hb2.mono HB1.out.size)
        have Hown2 : Hid (OwnW w2 (.slice (some ⟨r, 0, none⟩) 0 (total ts)) []) := Hown1.out.kp (Kp.of_below (X := []) hb2) (by simp)
        clear hb2
        refine anyIn_read (i := 15) rfl (by kernel_rfl) (by kernel_rfl) (by kernel_rfl) (fun _ _ _ _ h => h) ?_
        apply Exists.intro
        refine ⟨Or.inl ⟨by rfl, fun wx hwx => ?_⟩, ?_⟩
        (go_simp; first | done | with_reducible rfl)
        refine anyIn_read (i := 16) rfl (by kernel_rfl) (by kernel_rfl) (by kernel_rfl) (fun _ _ _ _ h => h) ?_
        apply Exists.intro
        refine ⟨Or.inl ⟨by rfl, fun wx hwx => ?_⟩, ?_⟩
        (go_simp; first | done | with_reducible rfl)
        go_simp
        refine anyIn_one (i := 17) (o := ?o8) HB2.out ?ha8 (by kernel_rfl) ?hb8
        case ha8 => rfl
        intro K hK
        go_simp
        refine hK _ _ ?_
        clear hK K
        have hal : Kp [] w2 ((w2).alloc (.cells #[.int .i64 0, .int .i64 0, .slice none 0 0, .int .i64 0, .int .i64 0, .slice none 0 0] 70)) := Kp.alloc [] w2 _
        have HB3 : Hid (Below w.heap.size w ((w2).alloc (.cells #[.int .i64 0, .int .i64 0, .slice none 0 0, .int .i64 0, .int .i64 0, .slice none 0 0] 70))) := HB2.out.trans (hal.below HB2.out.size (by simp))
        have Hbox3 : Hid (((w2).alloc (.cells #[.int .i64 0, .int .i64 0, .slice none 0 0, .int .i64 0, .int .i64 0, .slice none 0 0] 70)).heap[(w2).heap.size]? = some (.cells #[.int .i64 0, .int .i64 0, .slice none 0 0, .int .i64 0, .int .i64 0, .slice none 0 0] 70)) := alloc_get w2 _
        have Hmb : Hid (w.heap.size ≤ (w2).heap.size) := HB2.out.size
        have Hown3 : Hid (OwnW ((w2).alloc (.cells #[.int .i64 0, .int .i64 0, .slice none 0 0, .int .i64 0, .int .i64 0, .slice none 0 0] 70)) (.slice (some ⟨r, 0, none⟩) 0 (total ts)) []) := Hown2.out.kp hal (by simp)
        clear hal
        generalize (w2).alloc (.cells #[.int .i64 0, .int .i64 0, .slice none 0 0, .int .i64 0, .int .i64 0, .slice none 0 0] 70) = w3 at *
        generalize (w2).heap.size = mb at *
        have HI : Hid (MvInit w cells first (first + total ts) ts rs (.slice p (total ts) cap) mb (.slice (some ⟨r, 0, none⟩) 0 (total ts)) r (put6 w3 mb (.int .i64 cells) (.int .i64 first) (.slice p (total ts) cap) (.int .i64 cells) (.int .i64 (first + total ts)) (.slice (some ⟨r, 0, none⟩) 0 (total ts)))) := mv_init H.out HB3.out hf Hown3.out Hr.out Hbox3.out Hmb.out rs
        have hbx := Hbox3.out
        have HBz : Hid (Below w.heap.size w w3) := HB3.out
        have hlt := (Array.getElem?_eq_some_iff.1 hbx).1
        have x0 : w3.cell? ⟨mb, 0, none⟩ = some (.int .i64 0) := by simp only [World.cell?, hbx]; rfl
        have y0 : w3.frozen? ⟨mb, 0, none⟩ = false := by simp only [World.frozen?, hbx]; rfl
        have x1 : w3.cell? ⟨mb, 1, none⟩ = some (.int .i64 0) := by simp only [World.cell?, hbx]; rfl
        have y1 : w3.frozen? ⟨mb, 1, none⟩ = false := by simp only [World.frozen?, hbx]; rfl
        have x2 : w3.cell? ⟨mb, 2, none⟩ = some (.slice none 0 0) := by simp only [World.cell?, hbx]; rfl
        have y2 : w3.frozen? ⟨mb, 2, none⟩ = false := by simp only [World.frozen?, hbx]; rfl
        have x3 : w3.cell? ⟨mb, 3, none⟩ = some (.int .i64 0) := by simp only [World.cell?, hbx]; rfl
        have y3 : w3.frozen? ⟨mb, 3, none⟩ = false := by simp only [World.frozen?, hbx]; rfl
        have x4 : w3.cell? ⟨mb, 4, none⟩ = some (.int .i64 0) := by simp only [World.cell?, hbx]; rfl
        have y4 : w3.frozen? ⟨mb, 4, none⟩ = false := by simp only [World.frozen?, hbx]; rfl
        have x5 : w3.cell? ⟨mb, 5, none⟩ = some (.slice none 0 0) := by simp only [World.cell?, hbx]; rfl
        have y5 : w3.frozen? ⟨mb, 5, none⟩ = false := by simp only [World.frozen?, hbx]; rfl
        clear hbx
        refine anyIn_one (i := 18) HBz.out rfl (by kernel_rfl) (fun K hK => ?_)
        unfold put6 at HI
        go_simp
        refine hK _ _ ?_
        clear hK K
        refine anyIn_done HI.out.b (by kernel_rfl) ?_
        go_wp2_with fail
        go_meet
        exact ⟨mb, r, _, rfl, HI⟩
      · refine anyIn_op (o := ?o9) ?ha9 ?hb9
        case ha9 => rfl
        intro K hK
        go_simp
        refine hK _ _ ?_
        clear hK K
        have hal : Kp [] w1 ((w1).alloc (.cells #[.int .i64 0, .int .i64 0, .slice none 0 0, .int .i64 0, .int .i64 0, .slice none 0 0] 70)) := Kp.alloc [] w1 _
        have HB2 : Hid (Below w.heap.size w ((w1).alloc (.cells #[.int .i64 0, .int .i64 0, .slice none 0 0, .int .i64 0, .int .i64 0, .slice none 0 0] 70))) := HB1.out.trans (hal.below HB1.out.size (by simp))
        have Hbox2 : Hid (((w1).alloc (.cells #[.int .i64 0, .int .i64 0, .slice none 0 0, .int .i64 0, .int .i64 0, .slice none 0 0] 70)).heap[(w1).heap.size]? = some (.cells #[.int .i64 0, .int .i64 0, .slice none 0 0, .int .i64 0, .int .i64 0, .slice none 0 0] 70)) := alloc_get w1 _
        have Hmb : Hid (w.heap.size ≤ (w1).heap.size) := HB1.out.size
        have Hown2 : Hid (OwnW ((w1).alloc (.cells #[.int .i64 0, .int .i64 0, .slice none 0 0, .int .i64 0, .int .i64 0, .slice none 0 0] 70)) (.slice (some ⟨r, 0, none⟩) 0 (total ts)) []) := Hown1.out.kp hal (by simp)
        clear hal
        generalize (w1).alloc (.cells #[.int .i64 0, .int .i64 0, .slice none 0 0, .int .i64 0, .int .i64 0, .slice none 0 0] 70) = w2 at *
        generalize (w1).heap.size = mb at *
        refine anyIn_one (i := 8) (o := ?o10) HB2.out ?ha10 (by kernel_rfl) ?hb10
        case ha10 => rfl
        intro K hK
        go_simp
        refine Calls.mono (Hend.out _ HB2.out) ?_
        rintro e w3 ⟨rfl, hb3⟩
        refine hK _ _ ?_
        clear hK K
        have HB3 : Hid (Below w.heap.size w w3) := HB2.out.trans (hb3.mono HB2.out.size)
        have Hown3 : Hid (OwnW w3 (.slice (some ⟨r, 0, none⟩) 0 (total ts)) []) := Hown2.out.kp (Kp.of_below (X := []) hb3) (by simp)
        have Hbox3 : Hid (w3.heap[mb]? = some (.cells #[.int .i64 0, .int .i64 0, .slice none 0 0, .int .i64 0, .int .i64 0, .slice none 0 0] 70)) := (hb3.block mb (Array.getElem?_eq_some_iff.1 Hbox2.out).1).trans Hbox2.out
        clear hb3
        refine anyIn_one (i := 15) HB3.out rfl (by kernel_rfl) (fun K hK => ?_)
        go_simp
        refine hK _ _ ?_
        clear hK K
        refine anyIn_one (i := 16) HB3.out rfl (by kernel_rfl) (fun K hK => ?_)
        go_simp
        refine hK _ _ ?_
        clear hK K
        have HI : Hid (MvInit w cells first (first + total ts) ts rs (.slice p (total ts) cap) mb (.slice (some ⟨r, 0, none⟩) 0 (total ts)) r (put6 w3 mb (.int .i64 cells) (.int .i64 first) (.slice p (total ts) cap) (.int .i64 cells) (.int .i64 (first + total ts)) (.slice (some ⟨r, 0, none⟩) 0 (total ts)))) := mv_init H.out HB3.out hf Hown3.out Hr.out Hbox3.out Hmb.out rs
        have hbx := Hbox3.out
        have HBz : Hid (Below w.heap.size w w3) := HB3.out
        have hlt := (Array.getElem?_eq_some_iff.1 hbx).1
        have x0 : w3.cell? ⟨mb, 0, none⟩ = some (.int .i64 0) := by simp only [World.cell?, hbx]; rfl
        have y0 : w3.frozen? ⟨mb, 0, none⟩ = false := by simp only [World.frozen?, hbx]; rfl
        have x1 : w3.cell? ⟨mb, 1, none⟩ = some (.int .i64 0) := by simp only [World.cell?, hbx]; rfl
        have y1 : w3.frozen? ⟨mb, 1, none⟩ = false := by simp only [World.frozen?, hbx]; rfl
        have x2 : w3.cell? ⟨mb, 2, none⟩ = some (.slice none 0 0) := by simp only [World.cell?, hbx]; rfl
        have y2 : w3.frozen? ⟨mb, 2, none⟩ = false := by simp only [World.frozen?, hbx]; rfl
        have x3 : w3.cell? ⟨mb, 3, none⟩ = some (.int .i64 0) := by simp only [World.cell?, hbx]; rfl
        have y3 : w3.frozen? ⟨mb, 3, none⟩ = false := by simp only [World.frozen?, hbx]; rfl
        have x4 : w3.cell? ⟨mb, 4, none⟩ = some (.int .i64 0) := by simp only [World.cell?, hbx]; rfl
        have y4 : w3.frozen? ⟨mb, 4, none⟩ = false := by simp only [World.frozen?, hbx]; rfl
        have x5 : w3.cell? ⟨mb, 5, none⟩ = some (.slice none 0 0) := by simp only [World.cell?, hbx]; rfl
        have y5 : w3.frozen? ⟨mb, 5, none⟩ = false := by simp only [World.frozen?, hbx]; rfl
        clear hbx
        refine anyIn_one (i := 18) HBz.out rfl (by kernel_rfl) (fun K hK => ?_)
        unfold put6 at HI
        go_simp
        refine hK _ _ ?_
        clear hK K
        refine anyIn_done HI.out.b (by kernel_rfl) ?_
        go_wp2_with fail
        go_meet
        exact ⟨mb, r, _, rfl, HI⟩
    · refine anyIn_op (o := ?o11) ?ha11 ?hb11
      case ha11 => rfl
      intro K hK
      go_simp
      refine hK _ _ ?_
      clear hK K
      have hal : Kp [] wd (wd.alloc (.cells #[.int .i64 0, .int .i64 0, .slice none 0 0, .int .i64 0, .int .i64 0, .slice none 0 0] 70)) := Kp.alloc [] wd _
      have HB1 : Hid (Below w.heap.size w (wd.alloc (.cells #[.int .i64 0, .int .i64 0, .slice none 0 0, .int .i64 0, .int .i64 0, .slice none 0 0] 70))) := HB0.out.trans (hal.below HB0.out.size (by simp))
      have Hbox1 : Hid ((wd.alloc (.cells #[.int .i64 0, .int .i64 0, .slice none 0 0, .int .i64 0, .int .i64 0, .slice none 0 0] 70)).heap[wd.heap.size]? = some (.cells #[.int .i64 0, .int .i64 0, .slice none 0 0, .int .i64 0, .int .i64 0, .slice none 0 0] 70)) := alloc_get wd _
      have Hmb : Hid (w.heap.size ≤ wd.heap.size) := HB0.out.size
      clear hal
      generalize wd.alloc (.cells #[.int .i64 0, .int .i64 0, .slice none 0 0, .int .i64 0, .int .i64 0, .slice none 0 0] 70) = w1 at *
      generalize wd.heap.size = mb at *
      refine anyIn_all (rs := [8, 14]) HB1.out (by kernel_rfl) (by simp) ?_
      intro i hi
      have hi3 : i = 8 ∨ i = 14 := by simpa using hi
      clear hi
      rcases hi3 with rfl | rfl
      · refine anyIn_op (o := ?o12) ?ha12 ?hb12
        case ha12 => rfl
        intro K hK
        go_simp
        refine Calls.mono (Hend.out _ HB1.out) ?_
        rintro e w2 ⟨rfl, hb2⟩
        refine hK _ _ ?_
        clear hK K
        have HB2 : Hid (Below w.heap.size w w2) := HB1.out.trans (hb2.mono HB1.out.size)
        have Hbox2 : Hid (w2.heap[mb]? = some (.cells #[.int .i64 0, .int .i64 0, .slice none 0 0, .int .i64 0, .int .i64 0, .slice none 0 0] 70)) := (hb2.block mb (Array.getElem?_eq_some_iff.1 Hbox1.out).1).trans Hbox1.out
        clear hb2
        refine anyIn_one (i := 14) (o := ?o13) HB2.out ?ha13 (by kernel_rfl) ?hb13
        case ha13 => rfl
        intro K hK
        obtain ⟨cur, hcs, hrun⟩ := run_make41 w2 (total ts) htot
        go_simp
        refine hK _ _ ?_
        clear hK K hrun
        have hal : Kp [] w2 ((w2).alloc (.cells cur 79)) := Kp.alloc [] w2 _
        have HB3 : Hid (Below w.heap.size w ((w2).alloc (.cells cur 79))) := HB2.out.trans (hal.below HB2.out.size (by simp))
        have Hown3 : Hid (OwnW ((w2).alloc (.cells cur 79)) (.slice (some ⟨(w2).heap.size, 0, none⟩) 0 (total ts)) []) := own_made w2 cur (total ts) htot hcs
        have Hr : Hid (w.heap.size ≤ (w2).heap.size) := HB2.out.size
        have Hbox3 : Hid (((w2).alloc (.cells cur 79)).heap[mb]? = some (.cells #[.int .i64 0, .int .i64 0, .slice none 0 0, .int .i64 0, .int .i64 0, .slice none 0 0] 70)) := (hal.block mb (Array.getElem?_eq_some_iff.1 Hbox2.out).1 (by simp)).trans Hbox2.out
        clear hal hcs
        generalize (w2).alloc (.cells cur 79) = w3 at *
        generalize (w2).heap.size = r at *
        refine anyIn_one (i := 15) HB3.out rfl (by kernel_rfl) (fun K hK => ?_)
        go_simp
        refine hK _ _ ?_
        clear hK K
        refine anyIn_one (i := 16) HB3.out rfl (by kernel_rfl) (fun K hK => ?_)
        go_simp
        refine hK _ _ ?_
        clear hK K
        have HI : Hid (MvInit w cells first (first + total ts) ts rs (.slice p (total ts) cap) mb (.slice (some ⟨r, 0, none⟩) 0 (total ts)) r (put6 w3 mb (.int .i64 cells) (.int .i64 first) (.slice p (total ts) cap) (.int .i64 cells) (.int .i64 (first + total ts)) (.slice (some ⟨r, 0, none⟩) 0 (total ts)))) := mv_init H.out HB3.out hf Hown3.out Hr.out Hbox3.out Hmb.out rs
        have hbx := Hbox3.out
        have HBz : Hid (Below w.heap.size w w3) := HB3.out
        have hlt := (Array.getElem?_eq_some_iff.1 hbx).1
        have x0 : w3.cell? ⟨mb, 0, none⟩ = some (.int .i64 0) := by simp only [World.cell?, hbx]; rfl
        have y0 : w3.frozen? ⟨mb, 0, none⟩ = false := by simp only [World.frozen?, hbx]; rfl
        have x1 : w3.cell? ⟨mb, 1, none⟩ = some (.int .i64 0) := by simp only [World.cell?, hbx]; rfl
        have y1 : w3.frozen? ⟨mb, 1, none⟩ = false := by simp only [World.frozen?, hbx]; rfl
        have x2 : w3.cell? ⟨mb, 2, none⟩ = some (.slice none 0 0) := by simp only [World.cell?, hbx]; rfl
        have y2 : w3.frozen? ⟨mb, 2, none⟩ = false := by simp only [World.frozen?, hbx]; rfl
        have x3 : w3.cell? ⟨mb, 3, none⟩ = some (.int .i64 0) := by simp only [World.cell?, hbx]; rfl
        have y3 : w3.frozen? ⟨mb, 3, none⟩ = false := by simp only [World.frozen?, hbx]; rfl
        have x4 : w3.cell? ⟨mb, 4, none⟩ = some (.int .i64 0) := by simp only [World.cell?, hbx]; rfl
        have y4 : w3.frozen? ⟨mb, 4, none⟩ = false := by simp only [World.frozen?, hbx]; rfl
        have x5 : w3.cell? ⟨mb, 5, none⟩ = some (.slice none 0 0) := by simp only [World.cell?, hbx]; rfl
        have y5 : w3.frozen? ⟨mb, 5, none⟩ = false := by simp only [World.frozen?, hbx]; rfl
        clear hbx
        refine anyIn_one (i := 18) HBz.out rfl (by kernel_rfl) (fun K hK => ?_)
        unfold put6 at HI
        go_simp
        refine hK _ _ ?_
        clear hK K
        refine anyIn_done HI.out.b (by kernel_rfl) ?_
        go_wp2_with fail
        go_meet
        exact ⟨mb, r, _, rfl, HI⟩
      · refine anyIn_op (o := ?o14) ?ha14 ?hb14
        case ha14 => rfl
        intro K hK
        obtain ⟨cur, hcs, hrun⟩ := run_make41 w1 (total ts) htot
        go_simp
        refine hK _ _ ?_
        clear hK K hrun
        have hal : Kp [] w1 ((w1).alloc (.cells cur 79)) := Kp.alloc [] w1 _
        have HB2 : Hid (Below w.heap.size w ((w1).alloc (.cells cur 79))) := HB1.out.trans (hal.below HB1.out.size (by simp))
        have Hown2 : Hid (OwnW ((w1).alloc (.cells cur 79)) (.slice (some ⟨(w1).heap.size, 0, none⟩) 0 (total ts)) []) := own_made w1 cur (total ts) htot hcs
        have Hr : Hid (w.heap.size ≤ (w1).heap.size) := HB1.out.size
        have Hbox2 : Hid (((w1).alloc (.cells cur 79)).heap[mb]? = some (.cells #[.int .i64 0, .int .i64 0, .slice none 0 0, .int .i64 0, .int .i64 0, .slice none 0 0] 70)) := (hal.block mb (Array.getElem?_eq_some_iff.1 Hbox1.out).1 (by simp)).trans Hbox1.out
        clear hal hcs
        generalize (w1).alloc (.cells cur 79) = w2 at *
        generalize (w1).heap.size = r at *
        refine anyIn_one (i := 8) (o := ?o15) HB2.out ?ha15 (by kernel_rfl) ?hb15
        case ha15 => rfl
        intro K hK
        go_simp
        refine Calls.mono (Hend.out _ HB2.out) ?_
        rintro e w3 ⟨rfl, hb3⟩
        refine hK _ _ ?_
        clear hK K
        have HB3 : Hid (Below w.heap.size w w3) := HB2.out.trans (hb3.mono HB2.out.size)
        have Hown3 : Hid (OwnW w3 (.slice (some ⟨r, 0, none⟩) 0 (total ts)) []) := Hown2.out.kp (Kp.of_below (X := []) hb3) (by simp)
        have Hbox3 : Hid (w3.heap[mb]? = some (.cells #[.int .i64 0, .int .i64 0, .slice none 0 0, .int .i64 0, .int .i64 0, .slice none 0 0] 70)) := (hb3.block mb (Array.getElem?_eq_some_iff.1 Hbox2.out).1).trans Hbox2.out
        clear hb3
        refine anyIn_one (i := 15) HB3.out rfl (by kernel_rfl) (fun K hK => ?_)
        go_simp
        refine hK _ _ ?_
        clear hK K
        refine anyIn_one (i := 16) HB3.out rfl (by kernel_rfl) (fun K hK => ?_)
        go_simp
        refine hK _ _ ?_
        clear hK K
        have HI : Hid (MvInit w cells first (first + total ts) ts rs (.slice p (total ts) cap) mb (.slice (some ⟨r, 0, none⟩) 0 (total ts)) r (put6 w3 mb (.int .i64 cells) (.int .i64 first) (.slice p (total ts) cap) (.int .i64 cells) (.int .i64 (first + total ts)) (.slice (some ⟨r, 0, none⟩) 0 (total ts)))) := mv_init H.out HB3.out hf Hown3.out Hr.out Hbox3.out Hmb.out rs
        have hbx := Hbox3.out
        have HBz : Hid (Below w.heap.size w w3) := HB3.out
        have hlt := (Array.getElem?_eq_some_iff.1 hbx).1
        have x0 : w3.cell? ⟨mb, 0, none⟩ = some (.int .i64 0) := by simp only [World.cell?, hbx]; rfl
        have y0 : w3.frozen? ⟨mb, 0, none⟩ = false := by simp only [World.frozen?, hbx]; rfl
        have x1 : w3.cell? ⟨mb, 1, none⟩ = some (.int .i64 0) := by simp only [World.cell?, hbx]; rfl
        have y1 : w3.frozen? ⟨mb, 1, none⟩ = false := by simp only [World.frozen?, hbx]; rfl
        have x2 : w3.cell? ⟨mb, 2, none⟩ = some (.slice none 0 0) := by simp only [World.cell?, hbx]; rfl
        have y2 : w3.frozen? ⟨mb, 2, none⟩ = false := by simp only [World.frozen?, hbx]; rfl
        have x3 : w3.cell? ⟨mb, 3, none⟩ = some (.int .i64 0) := by simp only [World.cell?, hbx]; rfl
        have y3 : w3.frozen? ⟨mb, 3, none⟩ = false := by simp only [World.frozen?, hbx]; rfl
        have x4 : w3.cell? ⟨mb, 4, none⟩ = some (.int .i64 0) := by simp only [World.cell?, hbx]; rfl
        have y4 : w3.frozen? ⟨mb, 4, none⟩ = false := by simp only [World.frozen?, hbx]; rfl
        have x5 : w3.cell? ⟨mb, 5, none⟩ = some (.slice none 0 0) := by simp only [World.cell?, hbx]; rfl
        have y5 : w3.frozen? ⟨mb, 5, none⟩ = false := by simp only [World.frozen?, hbx]; rfl
        clear hbx
        refine anyIn_one (i := 18) HBz.out rfl (by kernel_rfl) (fun K hK => ?_)
        unfold put6 at HI
        go_simp
        refine hK _ _ ?_
        clear hK K
        refine anyIn_done HI.out.b (by kernel_rfl) ?_
        go_wp2_with fail
        go_meet
        exact ⟨mb, r, _, rfl, HI⟩
  case rest =>
    obtain ⟨mb, r, n, rfl, HI⟩ := hcut
    have hw1 : wc.heap[wb]? = some (.cells #[h0, h1, rv, h3] 34) := (HI.out.b.block wb (Array.getElem?_eq_some_iff.1 HW.out).1).trans HW.out
    have hr1 : OwnC wc base rv rs := Hr.out.keep (fun k hk => HI.out.b.block k (Hr.out.block k hk).2)
    have Hroots : Hid _ := roots_any wc mb cells first (first + total ts) ts rs (.slice p (total ts) cap) (.slice (some ⟨r, 0, none⟩) 0 n) base rv wb h0 h1 h3 HI.out.m Hro.out hw1 hr1 hl
    clear Hall hw1 hr1
    go_wp2_with fail
    refine Calls.mono Hroots.out ?_
    rintro e w5 ⟨v5, w5, tv, V, hRS⟩
    have HRS : Hid (RS wc mb cells first (first + total ts) ts rs (.slice p (total ts) cap) (.slice (some ⟨r, 0, none⟩) 0 n) base rv w5 tv V rs.length) := hRS
    have Hfields : Hid _ := fields_any w5 mb cells first (first + total ts) ts rs (.slice p (total ts) cap) tv V Hc.out hRS.m
    clear hRS Hroots
    go_wp2_with fail
    refine Calls.mono Hfields.out ?_
    rintro e w6 ⟨w6, tv', V', hFS⟩
    have hCE := ce_of H.out Hr.out HI.out HRS.out hFS
    have HQ : Hid _ := ce_post H.out hf hCE
    have HL : Hid ((scan (docOf first ts) (first + total ts) V' (raw (docOf first ts) V').length).length = cellsT (docOf first ts) V') := (scan_len _ _ _ _).trans (raw_len _ _)
    obtain ⟨q6, c6, hv6, c5, hml⟩ := hCE.m.mem.toCell
    have hbx := hCE.m.mem.box
    have c3 : w6.cell? ⟨mb, 3, none⟩ = some (.int .i64 cells) := by simp only [World.cell?, hbx]; rfl
    have c4 : w6.cell? ⟨mb, 4, none⟩ = some (.int .i64 (first + total ts)) := by simp only [World.cell?, hbx]; rfl
    have hbb := hCE.box
    have hlb := (Array.getElem?_eq_some_iff.1 hbb).1
    have x0 : w6.cell? ⟨hb, 0, none⟩ = some (.int .i64 cells) := by simp only [World.cell?, hbb]; rfl
    have x1 : w6.cell? ⟨hb, 1, none⟩ = some (.int .i64 first) := by simp only [World.cell?, hbb]; rfl
    have x2 : w6.cell? ⟨hb, 2, none⟩ = some (.slice p (total ts) cap) := by simp only [World.cell?, hbb]; rfl
    have y0 : w6.frozen? ⟨hb, 0, none⟩ = false := by simp only [World.frozen?, hbb]; rfl
    have y1 : w6.frozen? ⟨hb, 1, none⟩ = false := by simp only [World.frozen?, hbb]; rfl
    have y2 : w6.frozen? ⟨hb, 2, none⟩ = false := by simp only [World.frozen?, hbb]; rfl
    subst hv6
    rw [HL.out] at c5 HQ
    have z2 : (put3 w6 hb (.int .i64 cells) (.int .i64 (first + total ts)) (.slice q6 (cellsT (docOf first ts) V') c6)).cell? ⟨hb, 2, none⟩ = some (.slice q6 (cellsT (docOf first ts) V') c6) := by
      have := put3_get hbb (.int .i64 cells) (.int .i64 (first + total ts)) (.slice q6 (cellsT (docOf first ts) V') c6)
      simp only [World.cell?, this]
      rfl
    have z3 : hb < (put3 w6 hb (.int .i64 cells) (.int .i64 (first + total ts)) (.slice q6 (cellsT (docOf first ts) V') c6)).heap.size := by simpa [put3, World.setCell] using hlb
    clear hbx hbb hCE hFS Hfields HRS HI HL H Hc Hro HW Hr
    unfold put3 at *
    go_wp2_with fail
    exact bodyPost_ret (by simp [results, Try.results9, go_sem]) rfl HQ.out
end
end Go.Proofs.Ytfeopoamednidaa
