/-
  Things are moved, in plain words: what is moved, where it lies then, what was gone through.
-/
import Derived.Test.YtfeopoamednidaaM1
namespace Go.Proofs.Ytfeopoamednidaa
open Go.RowKit Go.Deep
def thP (P : Doc) (x : Int) : Th := (P x).getD default
def pos (P : Doc) : List Int → Int → Nat
  | [], _ => 0
  | y :: V, x => if x = y then 0 else (thP P y).sz + pos P V x
def raw (P : Doc) (V : List Int) : List Wd := V.flatMap (fun x => encT 0 (thP P x))
theorem raw_len (P : Doc) (V : List Int) : (raw P V).length = cellsT P V := by
  induction V with
  | nil => rfl
  | cons x V ih =>
    have : raw P (x :: V) = encT 0 (thP P x) ++ raw P V := rfl
    rw [this, List.length_append, ih, encT_len, cellsT]
    unfold Th.sz fsOf thP
    omega
theorem raw_snoc (P : Doc) (V : List Int) (x : Int) : raw P (V ++ [x]) = raw P V ++ encT 0 (thP P x) := by simp [raw]
theorem pos_old (P : Doc) (W : List Int) {x : Int} : ∀ V : List Int, x ∈ V → pos P (V ++ W) x = pos P V x
  | y :: V, h => by
    rw [List.cons_append, pos, pos]
    by_cases e : x = y
    · rw [if_pos e, if_pos e]
    · rw [if_neg e, if_neg e, pos_old P W V (by rcases List.mem_cons.1 h with h | h; exact absurd h e; exact h)]
theorem pos_new (P : Doc) {x : Int} : ∀ V : List Int, x ∉ V → pos P (V ++ [x]) x = (raw P V).length
  | [], _ => by simp [pos, raw]
  | y :: V, h => by
    have e : x ≠ y := fun e => h (by simp [e])
    have : raw P (y :: V) = encT 0 (thP P y) ++ raw P V := rfl
    rw [List.cons_append, pos, if_neg e, pos_new P V (fun hm => h (by simp [hm])), this, List.length_append, encT_len]
theorem pos_inj (P : Doc) {x y : Int} : ∀ V : List Int, x ∈ V → y ∈ V → pos P V x = pos P V y → x = y
  | z :: V, hx, hy, h => by
    have := sz_pos (thP P z)
    rw [pos, pos] at h
    by_cases ex : x = z
    · by_cases ey : y = z
      · rw [ex, ey]
      · rw [if_pos ex, if_neg ey] at h
        omega
    · by_cases ey : y = z
      · rw [if_neg ex, if_pos ey] at h
        omega
      · rw [if_neg ex, if_neg ey] at h
        exact pos_inj P V (by rcases List.mem_cons.1 hx with h | h; exact absurd h ex; exact h) (by rcases List.mem_cons.1 hy with h | h; exact absurd h ey; exact h) (by omega)
theorem pos_lt (P : Doc) {x : Int} : ∀ V : List Int, x ∈ V → pos P V x < (raw P V).length
  | z :: V, hx => by
    have := sz_pos (thP P z)
    have e : raw P (z :: V) = encT 0 (thP P z) ++ raw P V := rfl
    rw [pos, e, List.length_append, encT_len]
    by_cases ex : x = z
    · rw [if_pos ex]; omega
    · rw [if_neg ex]
      have := pos_lt P V (by rcases List.mem_cons.1 hx with h | h; exact absurd h ex; exact h)
      omega
/-- What heads are marked with. -/
def mkV (P : Doc) (V : List Int) : Int → Int := fun x => if x ∈ V then (pos P V x : Int) + 1 else 0
theorem mkV_snoc (P : Doc) (V : List Int) {x : Int} (hx : x ∉ V) : mkV P (V ++ [x]) = upd (mkV P V) x ((raw P V).length + 1) := by
  funext y
  unfold mkV upd
  show (if y ∈ V ++ [x] then ((pos P (V ++ [x]) y : Nat) : Int) + 1 else 0) = if y = x then _ else (if y ∈ V then ((pos P V y : Nat) : Int) + 1 else 0)
  by_cases e : y = x
  · subst e
    rw [if_pos (by simp), if_pos rfl, pos_new P V hx]
  · rw [if_neg e]
    by_cases hy : y ∈ V
    · rw [if_pos (by simp [hy]), if_pos hy, pos_old P [x] V hy]
    · rw [if_neg (by simp [hy, e]), if_neg hy]
def fw (P : Doc) (tf : Int) (V : List Int) : Int → Int := fun x => tf + pos P V x
def mvW (f : Int → Int) (w : Wd) : Wd := if w.part = 1 then { w with n := f w.n } else w
def mvT (f : Int → Int) (t : Th) : Th := ⟨t.kind, t.tag, t.fs.map (mvC f)⟩
theorem mvW_hdw (f : Int → Int) (m : Int) (t : Th) : mvW f (hdw m t) = hdw m t := rfl
theorem mvW_fld (f : Int → Int) (c : Cl) : mvW f (fld c) = fld (mvC f c) := by
  obtain ⟨p, n⟩ := c
  cases p <;> rfl
theorem mvW_enc (f : Int → Int) (m : Int) (t : Th) : (encT m t).map (mvW f) = encT m (mvT f t) := by
  unfold encT mvT
  rw [List.map_cons, mvW_hdw, List.map_map, List.map_map]
  congr 1
  · simp [hdw]
  · exact List.map_congr_left (fun c _ => mvW_fld f c)
/-- The words of what was moved; the first i have been gone through. -/
def scan (P : Doc) (tf : Int) (V : List Int) (i : Nat) : List Wd := ((raw P V).take i).map (mvW (fw P tf V)) ++ (raw P V).drop i
def Sn (P : Doc) (V : List Int) (i : Nat) : Prop := ∀ w ∈ (raw P V).take i, w.part = 1 → w.n ∈ V
theorem scan_len (P : Doc) (tf : Int) (V : List Int) (i : Nat) : (scan P tf V i).length = (raw P V).length := by
  simp [scan]
  omega
theorem scan_get (P : Doc) (tf : Int) (V : List Int) (i : Nat) (hi : i < (raw P V).length) : (scan P tf V i)[i]? = (raw P V)[i]? := by
  unfold scan
  rw [List.getElem?_append_right (by simp; omega)]
  simp
  congr 1
  omega
theorem take_snoc (l : List Wd) (i : Nat) (hi : i < l.length) : l.take (i + 1) = l.take i ++ [l[i]'hi] := by rw [List.take_add_one, List.getElem?_eq_getElem hi]; rfl
theorem scan_next (P : Doc) (tf : Int) (V : List Int) (i : Nat) (hi : i < (raw P V).length) : scan P tf V (i + 1) = (scan P tf V i).set i (mvW (fw P tf V) ((raw P V)[i]'hi)) := by
  unfold scan
  have h1 : (((raw P V).take i).map (mvW (fw P tf V))).length = i := by simp; omega
  rw [List.set_append_right _ _ (by omega), h1, Nat.sub_self, take_snoc _ _ hi, List.map_append, List.append_assoc, List.drop_eq_getElem_cons hi]
  rfl
theorem Sn.next {P : Doc} {V : List Int} {i : Nat} (h : Sn P V i) (hi : i < (raw P V).length) (hx : ((raw P V)[i]'hi).part = 1 → ((raw P V)[i]'hi).n ∈ V) : Sn P V (i + 1) := by
  intro w hw hp
  rw [take_snoc _ _ hi] at hw
  rcases List.mem_append.1 hw with hw | hw
  · exact h w hw hp
  · simp at hw
    subst hw
    exact hx hp
theorem Sn.more {P : Doc} {V : List Int} {i : Nat} (h : Sn P V i) (hi : i ≤ (raw P V).length) (x : Int) : Sn P (V ++ [x]) i := by
  intro w hw hp
  rw [raw_snoc, List.take_append_of_le_length hi] at hw
  exact List.mem_append_left _ (h w hw hp)
theorem scan_more {P : Doc} (tf : Int) {V : List Int} {i : Nat} (h : Sn P V i) (hi : i ≤ (raw P V).length) (x : Int) : scan P tf (V ++ [x]) i = scan P tf V i ++ encT 0 (thP P x) := by
  unfold scan
  rw [raw_snoc, List.take_append_of_le_length hi, List.drop_append_of_le_length hi, List.append_assoc]
  congr 1
  refine List.map_congr_left (fun w hw => ?_)
  unfold mvW
  by_cases hp : w.part = 1
  · rw [if_pos hp, if_pos hp]
    unfold fw
    rw [pos_old P [x] V (h w hw hp)]
  · rw [if_neg hp, if_neg hp]
theorem raw_map (f : Int → Int) (P : Doc) : ∀ (tf : Int) (V : List Int), (raw P V).map (mvW f) = encL (fun _ => 0) tf (V.map (fun x => mvT f (thP P x)))
  | _, [] => rfl
  | tf, x :: V => by
    have e : raw P (x :: V) = encT 0 (thP P x) ++ raw P V := rfl
    rw [e, List.map_append, mvW_enc, List.map_cons, encL, raw_map f P _ V]
theorem scan_end (P : Doc) (tf : Int) (V : List Int) : scan P tf V (raw P V).length = encL (fun _ => 0) tf (V.map (fun x => mvT (fw P tf V) (thP P x))) := by
  unfold scan
  rw [List.take_length, List.drop_length, List.append_nil]
  exact raw_map _ P tf V
theorem doc_pos (P : Doc) (g : Int → Th) (hg : ∀ x, (g x).sz = (thP P x).sz) : ∀ (tf : Int) (V : List Int) (x : Int), x ∈ V → docOf tf (V.map g) (tf + pos P V x) = some (g x)
  | tf, y :: V, x, h => by
    rw [List.map_cons, doc_cons, pos]
    by_cases e : x = y
    · rw [if_pos e, if_pos (by omega), e]
    · have hs := sz_pos (thP P y)
      rw [if_neg e, if_neg (by omega), hg y]
      have := doc_pos P g hg (tf + (thP P y).sz) V x (by rcases List.mem_cons.1 h with h | h; exact absurd h e; exact h)
      rw [← this]
      congr 1
      omega
/-- What the words of what was moved refer to. -/
theorem raw_mem {P : Doc} {V : List Int} {w : Wd} (h : w ∈ raw P V) (hp : w.part = 1) : ∃ z ∈ V, ⟨true, w.n⟩ ∈ (thP P z).fs := by
  obtain ⟨z, hz, hw⟩ := List.mem_flatMap.1 h
  refine ⟨z, hz, ?_⟩
  rcases List.mem_cons.1 hw with hw | hw
  · rw [hw] at hp
    simp [hdw] at hp
  · obtain ⟨⟨p, n⟩, hc, rfl⟩ := List.mem_map.1 hw
    cases p
    · simp [fld] at hp
    · exact hc
/-- What stands in fields is there. -/
def Closed (a : Int) (ts : List Th) : Prop := ∀ t ∈ ts, ∀ y, ⟨true, y⟩ ∈ t.fs → (docOf a ts y).isSome = true
def RootsOk (P : Doc) (rs : List Cl) : Prop := ∀ y, ⟨true, y⟩ ∈ rs → (P y).isSome = true
theorem doc_mem {a : Int} {ts : List Th} {x : Int} {t : Th} (h : docOf a ts x = some t) : t ∈ ts := by
  obtain ⟨l, r, rfl, _⟩ := doc_split _ _ _ h
  simp
theorem reach_some {a : Int} {ts : List Th} {rs : List Cl} (hc : Closed a ts) (hr : RootsOk (docOf a ts) rs) {x : Int} (h : Reach (docOf a ts) rs x) : (docOf a ts x).isSome = true := by
  cases h with
  | root _ h => exact hr x h
  | field y _ t _ ht hf => exact hc t (doc_mem ht) x hf
theorem addrs_mem : ∀ (a : Int) (ts : List Th) (x : Int), x ∈ addrs a ts ↔ (docOf a ts x).isSome = true
  | a, [], x => by simp [addrs, docOf]
  | a, t :: r, x => by
    rw [addrs, List.mem_cons, doc_cons, addrs_mem]
    by_cases e : x = a
    · simp [e]
    · rw [if_neg e]
      simp [e]
theorem addrs_cells : ∀ (l r : List Th) (a : Int), cellsT (docOf a (l ++ r)) (addrs (a + total l) r) = total r
  | l, [], a => by simp [addrs, cellsT, total]
  | l, t :: r, a => by
    rw [addrs, cellsT, total]
    have h1 : fsOf (docOf a (l ++ t :: r)) (a + total l) = t.fs := by unfold fsOf; rw [doc_at]; rfl
    have h2 := addrs_cells (l ++ [t]) r a
    rw [List.append_assoc, List.singleton_append, total_app] at h2
    simp only [total, Nat.add_zero] at h2
    have e : a + (total l : Int) + (t.sz : Int) = a + ((total l + t.sz : Nat) : Int) := by omega
    rw [h1, e, h2]
    simp only [Th.sz]
    omega
/-- What is moved takes no more than there is. -/
theorem cells_le {a : Int} {ts : List Th} {V : List Int} (hn : V.Nodup) (hV : ∀ x ∈ V, (docOf a ts x).isSome = true) : cellsT (docOf a ts) V ≤ total ts := by
  have h0 := addrs_cells [] ts a
  simp only [List.nil_append, total, show a + ((0 : Nat) : Int) = a by omega] at h0
  have h1 := fieldsT_sub (docOf a ts) V (addrs a ts) hn (fun x hx => (addrs_mem a ts x).2 (hV x hx))
  have h2 := len_sub V (addrs a ts) hn (fun x hx => (addrs_mem a ts x).2 (hV x hx))
  rw [cellsT_eq] at h0 ⊢
  omega
/-- All that is reached was moved. -/
theorem moved_all {a : Int} {ts : List Th} {rs : List Cl} (tf : Int) {V : List Int} (hV : ∀ x, x ∈ V ↔ Reach (docOf a ts) rs x) :
    Moved (docOf a ts) (docOf tf (V.map (fun x => mvT (fw (docOf a ts) tf V) (thP (docOf a ts) x)))) rs (fw (docOf a ts) tf V) := by
  refine ⟨fun x y hx hy h => ?_, fun x t hx ht => ?_⟩
  · unfold fw at h
    exact pos_inj (docOf a ts) V ((hV x).2 hx) ((hV y).2 hy) (by omega)
  · have := doc_pos (docOf a ts) (fun x => mvT (fw (docOf a ts) tf V) (thP (docOf a ts) x)) (fun x => by simp [mvT, Th.sz]) tf V x ((hV x).2 hx)
    unfold fw at this ⊢
    rw [this]
    unfold thP
    rw [ht]
    rfl
theorem closed_moved {a : Int} {ts : List Th} {rs : List Cl} (tf : Int) {V : List Int} (hV : ∀ x, x ∈ V ↔ Reach (docOf a ts) rs x) (hs : ∀ x ∈ V, (docOf a ts x).isSome = true) :
    Closed tf (V.map (fun x => mvT (fw (docOf a ts) tf V) (thP (docOf a ts) x))) ∧ RootsOk (docOf tf (V.map (fun x => mvT (fw (docOf a ts) tf V) (thP (docOf a ts) x)))) (rs.map (mvC (fw (docOf a ts) tf V))) := by
  have hd : ∀ z ∈ V, (docOf tf (V.map (fun x => mvT (fw (docOf a ts) tf V) (thP (docOf a ts) x))) (fw (docOf a ts) tf V z)).isSome = true := fun z hz => by
    have := doc_pos (docOf a ts) (fun x => mvT (fw (docOf a ts) tf V) (thP (docOf a ts) x)) (fun x => by simp [mvT, Th.sz]) tf V z hz
    unfold fw at this ⊢
    rw [this]
    rfl
  have hm : ∀ (c : Cl) (y : Int), ⟨true, y⟩ = mvC (fw (docOf a ts) tf V) c → c = ⟨true, c.n⟩ ∧ y = fw (docOf a ts) tf V c.n := fun c y h => by
    obtain ⟨p, n⟩ := c
    unfold mvC at h
    cases p
    · simp at h
    · simp at h
      exact ⟨rfl, h⟩
  refine ⟨fun t ht y hy => ?_, fun y hy => ?_⟩
  · obtain ⟨x, hx, rfl⟩ := List.mem_map.1 ht
    obtain ⟨c, hc, e⟩ := List.mem_map.1 hy
    obtain ⟨e1, rfl⟩ := hm c y e.symm
    refine hd _ ((hV _).2 ?_)
    obtain ⟨u, hu⟩ := Option.isSome_iff_exists.1 (hs x hx)
    refine Reach.field x _ u ((hV x).1 hx) hu ?_
    unfold thP at hc
    rw [hu] at hc
    rw [← e1]
    exact hc
  · obtain ⟨c, hc, e⟩ := List.mem_map.1 hy
    obtain ⟨e1, rfl⟩ := hm c y e.symm
    exact hd _ ((hV _).2 (Reach.root _ (e1 ▸ hc)))
end Go.Proofs.Ytfeopoamednidaa
