/-
  The roots are moved: in plain words and in memory; the function that recovers.
-/
import Derived.Test.YtfeopoamednidaaRegR
namespace Go.Proofs.Ytfeopoamednidaa
open Go.RowKit Go.Deep
/-- The roots, of which the first i were moved. -/
def rmap (P : Doc) (tf : Int) (V : List Int) (rs : List Cl) (i : Nat) : List Cl := (rs.take i).map (mvC (fw P tf V)) ++ rs.drop i
theorem rmap_len (P : Doc) (tf : Int) (V : List Int) (rs : List Cl) (i : Nat) : (rmap P tf V rs i).length = rs.length := by
  simp [rmap]
  omega
theorem rmap_zero (P : Doc) (tf : Int) (V : List Int) (rs : List Cl) : rmap P tf V rs 0 = rs := by simp [rmap]
theorem rmap_all (P : Doc) (tf : Int) (V : List Int) (rs : List Cl) : rmap P tf V rs rs.length = rs.map (mvC (fw P tf V)) := by simp [rmap]
theorem rmap_get (P : Doc) (tf : Int) (V : List Int) (rs : List Cl) (i : Nat) (hi : i < rs.length) : (rmap P tf V rs i)[i]? = some (rs[i]'hi) := by
  unfold rmap
  rw [List.getElem?_append_right (by simp; omega)]
  simp
  rw [show i + (i - min i rs.length) = i by omega, List.getElem?_eq_getElem hi]
theorem rmap_next (P : Doc) (tf : Int) (V : List Int) (rs : List Cl) (i : Nat) (hi : i < rs.length) : rmap P tf V rs (i + 1) = (rmap P tf V rs i).set i (mvC (fw P tf V) (rs[i]'hi)) := by
  unfold rmap
  have h1 : ((rs.take i).map (mvC (fw P tf V))).length = i := by simp; omega
  have h2 : rs.take (i + 1) = rs.take i ++ [rs[i]'hi] := by rw [List.take_add_one, List.getElem?_eq_getElem hi]; rfl
  rw [List.set_append_right _ _ (by omega), h1, Nat.sub_self, h2, List.map_append, List.append_assoc, List.drop_eq_getElem_cons hi]
  rfl
theorem rmap_grow {P : Doc} (tf : Int) {V V' : List Int} {x : Int} (hg : Grow V x V') (rs : List Cl) (i : Nat) (hs : ∀ y, ⟨true, y⟩ ∈ rs.take i → y ∈ V) : rmap P tf V' rs i = rmap P tf V rs i := by
  unfold rmap
  congr 1
  refine List.map_congr_left (fun c hc => ?_)
  obtain ⟨p, n⟩ := c
  cases p
  · rfl
  · unfold mvC
    simp only [if_pos]
    rw [hg.same_fw P tf n (hs n hc)]
theorem cellsV_setN (l : List Cl) (k : Nat) (hk : k < l.length) (m : Int) : (cellsV l).set (k * 2 + 1) (.int .i64 m) = cellsV (l.set k ⟨(l[k]'hk).p, m⟩) := by
  have hc : ∀ (x : Cl) (r : List Cl), cellsV (x :: r) = x.vals ++ cellsV r := fun _ _ => rfl
  have e : cellsV l = cellsV (l.take k) ++ ((l[k]'hk).vals ++ cellsV (l.drop (k + 1))) := by
    rw [← hc, ← cellsV_app, ← List.drop_eq_getElem_cons hk, List.take_append_drop]
  have e2 : ∀ x, cellsV (l.set k x) = cellsV (l.take k) ++ (x.vals ++ cellsV (l.drop (k + 1))) := fun x => by
    rw [← hc, ← cellsV_app, List.set_eq_take_append_cons_drop, if_pos hk]
  have hlen : (cellsV (l.take k)).length = k * 2 := by rw [cellsV_len, List.length_take]; omega
  rw [e2, e, List.set_append_right _ _ (by omega), hlen, Nat.add_sub_cancel_left]
  rfl
theorem OwnC.setN {w : World} {base : Nat} {v : Value} {l : List Cl} (h : OwnC w base v l) {g : Nat} (hg : v.ownBlock = some g) (k : Nat) (hk : k < l.length) (m : Int) : OwnC (w.setCell ⟨g, k * 2 + 1, none⟩ (.int .i64 m)) base v (l.set k ⟨(l[k]'hk).p, m⟩) := by
  have h1 := ownsRow_set h hg (k * 2 + 1) (.int .i64 m)
  unfold OwnC
  rw [List.length_set, ← cellsV_setN l k hk m]
  exact h1
theorem OwnC.ne50 {w : World} {base : Nat} {v : Value} {l : List Cl} (h : OwnC w base v l) {c : Nat} {o : Obj} (hc : w.heap[c]? = some o) (ho : ∀ a f, o ≠ .cells a 50 f) : v.ownBlock ≠ some c := by
  intro e
  rcases h.2 with ⟨rfl, h0⟩ | ⟨g, cap, cur, rfl, h1, h2, _⟩
  · cases e
  · simp [Value.ownBlock] at e
    subst e
    rw [hc] at h2
    exact ho _ _ (Option.some.inj h2)
theorem OwnW.ne79 {w : World} {v : Value} {l : List Wd} (h : OwnW w v l) {c : Nat} {o : Obj} (hc : w.heap[c]? = some o) (ho : ∀ a f, o ≠ .cells a 79 f) : v.ownBlock ≠ some c := by
  intro e
  rcases h.2 with ⟨rfl, h0⟩ | ⟨g, cap, cur, rfl, h1, h2, _⟩
  · cases e
  · simp [Value.ownBlock] at e
    subst e
    rw [hc] at h2
    exact ho _ _ (Option.some.inj h2)
/-- Between two roots. -/
structure RS (w : World) (mb : Nat) (cells a tf : Int) (ts : List Th) (rs : List Cl) (fv tv0 : Value) (base : Nat) (rv : Value) (W : World) (tv : Value) (V : List Int) (i : Nat) : Prop where
  m : Mvg W mb cells a tf ts rs fv tv V 0
  r : OwnC W base rv (rmap (docOf a ts) tf V rs i)
  k : Kp ([mb] ++ fv.ownBlock.toList ++ tv0.ownBlock.toList ++ rv.ownBlock.toList) w W
  f : tv.ownBlock = tv0.ownBlock ∨ ∃ g, tv.ownBlock = some g ∧ w.heap.size ≤ g
  s : ∀ x, ⟨true, x⟩ ∈ rs.take i → x ∈ V
theorem RS.kp {w : World} {mb : Nat} {cells a tf : Int} {ts : List Th} {rs : List Cl} {fv tv0 : Value} {base : Nat} {rv : Value} {W W' : World} {tv : Value} {V : List Int} {i : Nat} (h : RS w mb cells a tf ts rs fv tv0 base rv W tv V i) {k : Nat} (hk : w.heap.size ≤ k) (ho : ∃ o : Obj, W.heap[k]? = some o ∧ o.isCells = false) (hw : Kp [k] W W') : RS w mb cells a tf ts rs fv tv0 base rv W' tv V i := by
  obtain ⟨o, ho, hoc⟩ := ho
  have hn : ∀ t b f, o ≠ .cells b t f := fun t b f e => by rw [e] at hoc; cases hoc
  have h1 : mb ≠ k := fun e => by
    have := h.m.mem.box
    rw [e, ho] at this
    exact hn _ _ _ (Option.some.inj this)
  refine ⟨h.m.kp hw (by simpa using h1) (fun j hj => by simp; exact fun e => h.m.mem.fown.ne79 ho (fun b f => hn 79 b f) (e ▸ hj)) (fun j hj => by simp; exact fun e => h.m.mem.town.ne79 ho (fun b f => hn 79 b f) (e ▸ hj)), h.r.keep (fun j hj => hw.block j (h.r.block j hj).2 (by simp; exact fun e => h.r.ne50 ho (fun b f => hn 50 b f) (e ▸ hj))), h.k.then hw (fun y hy => Or.inr (by simp at hy; subst hy; exact hk)), h.f, h.s⟩
section
set_option maxHeartbeats 8000000
set_option maxRecDepth 100000
theorem rec30 (n : Nat) (w : World) : CallsDIn Fence.wide n Try.prog 30 #[] .returning w fun e u' w' => (∃ v, e = .returned v) ∧ u' = .returning ∧ w' = w := by
  refine callsDIn_of_wpSIn Try.func30 rfl trivial fun c₀ cs hu => ?_
  apply wpSIn_region
  simp [wpOpsSIn, go_sem, recoverD, hu, Try.ntmps30, bodyPostS, results, Try.results30]
  rw [← hu]
end
end Go.Proofs.Ytfeopoamednidaa
