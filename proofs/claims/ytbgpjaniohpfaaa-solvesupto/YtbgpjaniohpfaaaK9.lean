/-
  A variable stands for a type from now on (stand); are two types the same on top (sameTop).
-/
import Derived.Test.YtbgpjaniohpfaaaK8
namespace Go.Proofs.Ytbgpjaniohpfaaa
open Go.RowKit Go.Deep
variable {μ : Marks}
/-- How many of some variables stand for nothing. -/
def free (M : Int → Option Ty) (V : List Int) : Nat := (V.filter fun x => (M x).isNone).length
theorem free_le (M : Int → Option Ty) (V : List Int) : free M V ≤ V.length := List.length_filter_le _ _
theorem free_same {M M' : Int → Option Ty} {V : List Int} (h : ∀ x, (M' x).isSome = (M x).isSome) : free M' V = free M V := by
  unfold free
  congr 1
  refine List.filter_congr fun x _ => ?_
  rw [← Option.not_isSome, ← Option.not_isSome, h]
theorem free_bind {M M' : Int → Option Ty} {m : Int} : ∀ {V : List Int}, (∀ x, (M' x).isSome = (x == m || (M x).isSome)) → V.Nodup → M m = none → (m ∉ V → free M' V = free M V) ∧ (m ∈ V → free M' V + 1 = free M V) := by
  intro V h
  induction V with
  | nil => intro _ _; exact ⟨fun _ => rfl, fun hm => by cases hm⟩
  | cons a V ih =>
    intro hn hm
    obtain ⟨ha, hn⟩ := List.nodup_cons.1 hn
    obtain ⟨i1, i2⟩ := ih hn hm
    unfold free at *
    simp only [List.filter_cons]
    by_cases e : a = m
    · subst e
      have h1 : (M' a).isNone = false := by rw [← Option.not_isSome, h]; simp
      have h2 : (M a).isNone = true := by rw [hm]; rfl
      rw [h1, h2]
      refine ⟨fun hh => absurd (List.mem_cons_self ..) hh, fun _ => ?_⟩
      simp only [if_true, Bool.false_eq_true, if_false, List.length_cons]
      rw [i1 ha]
    · have h1 : (M' a).isNone = (M a).isNone := by rw [← Option.not_isSome, ← Option.not_isSome, h]; simp [e]
      rw [h1]
      refine ⟨fun hh => ?_, fun hh => ?_⟩
      · have := i1 (fun x => hh (List.mem_cons_of_mem _ x))
        split <;> simp [this]
      · have := i2 (by rcases List.mem_cons.1 hh with x | x; exact absurd x.symm e; exact x)
        split
        · simp only [List.length_cons]; omega
        · exact this
/-- So many of the variables stand for something. -/
structure Bal (n : Nat) (M : Int → Option Ty) (V : List Int) : Prop where
  sum : n + free M V = V.length
  nodup : V.Nodup
  room : V.length < maxLen
theorem Bal.same {n : Nat} {M M' : Int → Option Ty} {V : List Int} (h : Bal n M V) (hd : ∀ x, (M' x).isSome = (M x).isSome) : Bal n M' V := ⟨by rw [free_same hd]; exact h.sum, h.nodup, h.room⟩
theorem Bal.bind {n : Nat} {M M' : Int → Option Ty} {V : List Int} (h : Bal n M V) {m : Int} (hd : ∀ x, (M' x).isSome = (x == m || (M x).isSome)) (hm : M m = none) (hV : m ∈ V) : Bal (n + 1) M' V ∧ free M' V + 1 = free M V := by
  have := (free_bind hd h.nodup hm).2 hV
  exact ⟨⟨by have := h.sum; omega, h.nodup, h.room⟩, this⟩
/-- The solver's own block: the two maps, and how many variables have grown. -/
def SolBox (w : World) (sp bM bQ : Nat) (g : Int) : Prop := w.heap[sp]? = some (.cells #[.map (some bM), .map (some bQ), .int .i64 0, .int .i64 g] 53)
theorem SolBox.kp {X : List Nat} {w w' : World} {sp bM bQ : Nat} {g : Int} (h : SolBox w sp bM bQ g) (hk : Kp X w w') (hb : sp ∉ X) : SolBox w' sp bM bQ g := (hk.block sp (Array.getElem?_eq_some_iff.1 h).1 hb).trans h
theorem SolBox.cells {w : World} {sp bM bQ : Nat} {g : Int} (h : SolBox w sp bM bQ g) : w.cell? ⟨sp, 0, none⟩ = some (.map (some bM)) ∧ w.cell? ⟨sp, 1, none⟩ = some (.map (some bQ)) ∧ w.cell? ⟨sp, 3, none⟩ = some (.int .i64 g) := by
  unfold SolBox at h
  simp [World.cell?, h]
theorem SolBox.frozen {w : World} {sp bM bQ : Nat} {g : Int} (h : SolBox w sp bM bQ g) : w.frozen? ⟨sp, 3, none⟩ = false := by
  unfold SolBox at h
  simp [World.frozen?, h]
theorem SolBox.set {w : World} {sp bM bQ : Nat} {g : Int} (h : SolBox w sp bM bQ g) (d : Int) : SolBox (w.setCell ⟨sp, 3, none⟩ (.int .i64 d)) sp bM bQ d := by
  unfold SolBox at *
  simp [World.setCell, Array.getElem?_modify, h]
/-- One variable more has grown. -/
theorem Sq.grown {wb w : World} {sp bM bQ n nq : Nat} {M : Int → Option Ty} {f : Int → Ty} {q : Int → Int} {V : List Int} {g : Int} (h : Sq μ wb w sp bM bQ n nq M f q V) (hG : SolBox w sp bM bQ g) (d : Int) : Sq μ wb (w.setCell ⟨sp, 3, none⟩ (.int .i64 d)) sp bM bQ n nq M f q V := by
  have hlt := h.lt
  have hhi := h.sv.hi
  have hk : Kp [sp] w (w.setCell ⟨sp, 3, none⟩ (.int .i64 d)) := Kp.setCell _ _ (by simp) _
  obtain ⟨c0, c1, _⟩ := (hG.set d).cells
  exact ⟨⟨h.sv.base.trans (hk.below h.sv.base.size (by simp <;> omega)), c0, h.sv.map.kp hk (by simp <;> omega), h.sv.agr, hhi, h.sv.room⟩, c1, h.map.kp hk (by simp <;> omega), h.hi, h.room, h.low⟩
/-- What is left where a variable was to stand for a type, or two types were to be made the same. -/
inductive StPost (μ : Marks) (wb : World) (sp bM bQ n nq : Nat) (V : List Int) (w : World) (M : Int → Option Ty) (m : Int) (st : Step) (g : Int) (leaf : Prop) (e' : Ending) (w' : World) : Prop
  | stop (e : Int) (hst : st = .stop e) (he : e' = .returned (.int .i64 e)) (hk : Kp [bM, bQ, sp] w w') (hb : Below wb.heap.size wb w') : StPost μ wb sp bM bQ n nq V w M m st g leaf e' w'
  | go (s1 : St) (M' : Int → Option Ty) (g' : Int) (hst : st = .go s1) (he : e' = .returned (.int .i64 0)) (hS : Sq μ wb w' sp bM bQ (n + 1) nq M' s1.sub s1.eq V) (hd : ∀ x, (M' x).isSome = (x == m || (M x).isSome)) (hk : Kp [bM, bQ, sp] w w') (hG : SolBox w' sp bM bQ g') (hg : (g' = g ∧ leaf) ∨ g' = g + 1) : StPost μ wb sp bM bQ n nq V w M m st g leaf e' w'
theorem Sq.base {wb w : World} {sp bM bQ n nq : Nat} {M : Int → Option Ty} {f : Int → Ty} {q : Int → Int} {V : List Int} (h : Sq μ wb w sp bM bQ n nq M f q V) : Below wb.heap.size wb w := h.sv.base
/-- A variable that stood for nothing stands for a type. -/
theorem Sq.bind {wb w w' : World} {sp bM bQ n nq : Nat} {M : Int → Option Ty} {f : Int → Ty} {q : Int → Int} {V : List Int} {m : Int} {t : Ty} (h : Sq μ wb w sp bM bQ n nq M f q V) (hn : n + 1 < maxLen) (hm : M m = none) (hv : (t.app f).hasV m = false) (hst : StandsAt μ wb w' bM (n + 1) (upd M m (some t))) (hk : Kp [bM] w w') : Sq μ wb w' sp bM bQ (n + 1) nq (upd M m (some t)) (bindF f m (t.app f)) q V := by
  have hlt := h.lt
  have hhi := h.sv.hi
  exact ⟨⟨h.sv.base.trans (hk.below h.sv.base.size (by simp <;> omega)), hk.cell h.sv.cell (by simp <;> omega), hst, h.sv.agr.bind hm (h.sv.agr.full t) hv, hhi, hn⟩, hk.cell h.cell (by simp <;> omega), h.map.kp hk (by simp <;> omega), h.hi, h.room, h.low⟩
set_option maxHeartbeats 2000000 in
set_option maxRecDepth 100000 in
theorem stand_any (wb : World) (sp bM bQ n nq : Nat) (V : List Int) (w : World) (M : Int → Option Ty) (f : Int → Ty) (q : Int → Int) (x : Int) (k m : Int) (s : ByteArray) (e : Int) (l : List Ty) (p : Option Addr) (cap : Nat)
    (hS : Sq μ wb w sp bM bQ n nq M f q V) (hn : n + 1 < maxLen) (hx : (Lit.int .i64 x).wf = true) (hM : M x = none) (hT : TyIn wb [.int .i64 k, .int .i64 m, .string s, .int .i64 e, .slice p l.length cap] (.mk k m s e l)) (hsh : (Ty.mk k m s e l).okm μ) (hV : ∀ y, ((Ty.mk k m s e l).app f).hasV y = true → V.contains y = true) (g : Int) (hG : SolBox w sp bM bQ g) (hg : 0 ≤ g ∧ g < 9223372036854775807) (hll : l.length ≤ maxLen) :
    Calls Try.prog 40 #[.pointer (some ⟨sp, 0, none⟩), .int .i64 x, .agg #[.int .i64 k, .int .i64 m, .string s, .int .i64 e, .slice p l.length cap]] w fun e' w' => StPost μ wb sp bM bQ n nq V w M x (St.stand ⟨f, q⟩ x ((Ty.mk k m s e l).app f)) g (l = []) e' w' := by
  have hlt := hS.lt
  have hk1 : Kp [] w (w.alloc (Obj.cells #[Value.int IntKind.i64 k, Value.int IntKind.i64 m, Value.string s, Value.int IntKind.i64 e, Value.slice p l.length cap] 33)) := Kp.alloc _ _ _
  have hB1 := Box.new w (.int .i64 k) (.int .i64 m) (.string s) (.int .i64 e) (.slice p l.length cap)
  have hS1 := hS.kp hk1 (by simp)
  have hcall := within_any wb sp bM n f x _ _ (Nat.le_refl _) _ M k m s e l p cap rfl hS1.sv hT hsh
  have Hcall : Hid _ := hcall
  have HG1 : Hid (SolBox (w.alloc (Obj.cells #[Value.int IntKind.i64 k, Value.int IntKind.i64 m, Value.string s, Value.int IntKind.i64 e, Value.slice p l.length cap] 33)) sp bM bQ g) := hG.kp hk1 (by simp)
  obtain ⟨hg0, hg1⟩ := hg
  unfold maxLen at hll
  have HS1 : Hid _ := hS1
  have HK1 : Hid (Kp [bM, bQ, sp] w (w.alloc (Obj.cells #[Value.int IntKind.i64 k, Value.int IntKind.i64 m, Value.string s, Value.int IntKind.i64 e, Value.slice p l.length cap] 33))) := hk1.mono (by simp)
  have HB1 : Hid _ := hB1
  have HT : Hid (TyIn wb [.int .i64 k, .int .i64 m, .string s, .int .i64 e, .slice p l.length cap] (.mk k m s e l)) := hT
  have Hsh : Hid ((Ty.mk k m s e l).okm μ) := hsh
  have HV : Hid (∀ y, ((Ty.mk k m s e l).app f).hasV y = true → V.contains y = true) := hV
  have HM : Hid (M x = none) := hM
  have Hx : Hid ((Lit.int .i64 x).wf = true) := hx
  have Hn : Hid (n + 1 < maxLen) := hn
  generalize hX : (Ty.mk k m s e l).app f = X at *
  have HX : Hid ((Ty.mk k m s e l).app f = X) := hX
  generalize hst : St.stand ⟨f, q⟩ x X = st
  unfold St.stand at hst
  have Hst : Hid _ := hst
  clear hX hst hcall hS1 hk1 hB1 hT hsh hV hM hS hx hn hG
  go_enter Try.func40, Try.ntmps40
  go_wp2_with fail
  generalize w.alloc (Obj.cells #[Value.int IntKind.i64 k, Value.int IntKind.i64 m, Value.string s, Value.int IntKind.i64 e, Value.slice p l.length cap] 33) = w1 at *
  refine Calls.mono Hcall.out ?_
  rintro e10 w2 ⟨rfl, hp⟩
  cases hp with
  | mk M2 hS2 hd2 hk2 =>
  have HS2 : Hid _ := Sq.after HS1.out hS2 hk2
  have HK2 : Hid (Kp [bM, bQ, sp] w w2) := Kp.trans HK1.out (hk2.mono (by simp))
  have HG2 : Hid (SolBox w2 sp bM bQ g) := SolBox.kp HG1.out hk2 (by simp <;> omega)
  have HB2 : Hid (Box w2 w.heap.size (.int .i64 k) (.int .i64 m) (.string s) (.int .i64 e) (.slice p l.length cap)) := Box.kp HB1.out hk2 (by simp <;> omega)
  have HD2 : Hid (∀ y, (M2 y).isSome = (M y).isSome) := hd2
  clear hS2 hd2 hk2 HS1 HK1 HB1 Hcall HG1
  by_cases hv : X.hasV x = true
  · rw [hv]
    have Hst2 : Hid (st = .stop 10) := by have := Hst.out; rw [if_pos hv] at this; exact this.symm
    clear Hst hv
    go_wp2
    go_ret
    exact StPost.stop 10 Hst2.out rfl HK2.out (Sq.base HS2.out)
  · have hv' : X.hasV x = false := by simpa using hv
    rw [hv']
    have Hv : Hid (X.hasV x = false) := hv'
    have hst2 : (if q x = 1 then (if (X.cmp q).1 = true then Step.go ⟨bindF f x X, (X.cmp q).2⟩ else .stop 11) else .go ⟨bindF f x X, q⟩) = st := by have := Hst.out; rw [if_neg hv] at this; exact this
    have Hst2 : Hid _ := hst2
    clear hv hv' Hst hst2
    have hc1 := Sq.cell HS2.out
    have hlk := (Sq.map HS2.out).look Hx.out
    obtain ⟨x0, x1, x2, x3, x4⟩ := HB2.out.cells
    by_cases hq : q x = 1
    · rw [hq] at hlk
      have hcall := compared_any wb sp bM bQ n nq f V _ _ (Nat.le_refl _) w2 M2 q k m s e l p cap rfl HS2.out HT.out Hsh.out (by rw [HX.out]; exact HV.out)
      rw [HX.out] at hcall
      unfold cmpArgs at hcall
      have Hcall : Hid _ := hcall
      have Hst3 : Hid ((if (X.cmp q).1 = true then Step.go ⟨bindF f x X, (X.cmp q).2⟩ else .stop 11) = st) := by have := Hst2.out; rw [if_pos hq] at this; exact this
      clear hq hcall Hst2
      generalize X.cmp q = R at *
      obtain ⟨c, q7⟩ := R
      go_wp2_with fail
      refine Calls.mono Hcall.out ?_
      rintro e10 w7 ⟨rfl, hp⟩
      cases hp with
      | mk M7 hS7 hd8 hk8 =>
      have hd7 : ∀ y, (M7 y).isSome = (M y).isSome := fun y => (hd8 y).trans (HD2.out y)
      have hk7 : Kp [bM, bQ, sp] w w7 := HK2.out.trans (hk8.mono (by simp))
      have HB7 := HB2.out.kp hk8 (by simp <;> omega)
      have HG7 : Hid (SolBox w7 sp bM bQ g) := HG2.out.kp hk8 (by simp <;> omega)
      clear hd8 hlk x0 x1 x2 x3 x4 hc1 hk8
      have HS7 : Hid (Sq μ wb w7 sp bM bQ n nq M7 f q7 V) := hS7
      have HK7 : Hid (Kp [bM, bQ, sp] w w7) := hk7
      have HD7 : Hid (∀ y, (M7 y).isSome = (M y).isSome) := hd7
      clear hS7 hk7 hd7
      cases c with
      | false =>
        have Hst4 : Hid (st = .stop 11) := by have := Hst3.out; rw [if_neg (by simp)] at this; exact this.symm
        clear Hst3
        go_wp2
        go_ret
        exact StPost.stop 11 Hst4.out rfl HK7.out (Sq.base HS7.out)
      | true =>
        have Hst4 : Hid (st = .go ⟨bindF f x X, q7⟩) := by have := Hst3.out; rw [if_pos (by simp)] at this; exact this.symm
        clear Hst3
        have hm7 : M7 x = none := by have := HD7.out x; rw [HM.out] at this; simpa using this
        obtain ⟨w8, hrun, hst8, hk8⟩ := HS7.out.drew.sv.map.store HS7.out.sv.room Hx.out HT.out Hsh.out
        rw [hm7] at hst8
        have hc0 := HS7.out.sv.cell
        obtain ⟨y0, y1, y2, y3, y4⟩ := HB7.cells
        have HS8 : Hid _ := HS7.out.bind Hn.out hm7 (by rw [HX.out]; exact Hv.out) hst8 ((Kp.refl _ _).drew.trans hk8)
        have hkk8 : Kp [bM] w7 w8 := (Kp.refl [bM] _).drew.trans hk8
        have HK8 : Hid (Kp [bM, bQ, sp] w w8) := HK7.out.trans (hkk8.mono (by simp))
        have Hm7 : Hid (M7 x = none) := hm7
        have HB8 : Hid (Box w8 w.heap.size (.int .i64 k) (.int .i64 m) (.string s) (.int .i64 e) (.slice p l.length cap)) := HB7.kp hkk8 (by simp <;> omega)
        have hG8 : SolBox w8 sp bM bQ g := HG7.out.kp hkk8 (by simp <;> omega)
        have HG8 : Hid (SolBox w8 sp bM bQ g) := hG8
        have z4 := HB8.out.cells.2.2.2.2
        obtain ⟨_, _, z5⟩ := hG8.cells
        have z6 := hG8.frozen
        have HDD : Hid (∀ y, (upd M7 x (some (.mk k m s e l)) y).isSome = (y == x || (M y).isSome)) := by
          intro y
          rw [← HD7.out y]
          by_cases hy : y = x
          · subst hy; rw [upd_same]; simp
          · rw [upd_other _ _ hy]; simp [hy]
        clear hst8 hk8 hkk8 HB7 hm7 hG8
        go_wp2_with fail
        go_region
        by_cases hl : l = []
        · have hl0 : ¬ (0 : Int) < (l.length : Int) := by rw [hl]; simp
          have Hl : Hid (l = []) := hl
          clear hl
          go_wp2
          go_ret
          exact StPost.go _ _ g Hst4.out rfl (by have := HS8.out; rw [HX.out] at this; exact this) HDD.out HK8.out HG8.out (.inl ⟨rfl, Hl.out⟩)
        · have hl0 : (0 : Int) < (l.length : Int) := by have := List.length_pos_iff.2 hl; omega
          clear hl
          go_wp2
          go_ret
          exact StPost.go _ _ (g + 1) Hst4.out rfl (by have := Sq.grown HS8.out HG8.out (g + 1); rw [HX.out] at this; exact this) HDD.out (HK8.out.trans ((Kp.setCell _ ⟨sp, 3, none⟩ (by simp) _))) (SolBox.set HG8.out (g + 1)) (.inr rfl)
    · have hq' : (q x == 1) = false := by simpa using hq
      have Hst4 : Hid (st = .go ⟨bindF f x X, q⟩) := by have := Hst2.out; rw [if_neg hq] at this; exact this.symm
      clear hq Hst2
      have hm7 : M2 x = none := by have := HD2.out x; rw [HM.out] at this; simpa using this
      obtain ⟨w8, hrun, hst8, hk8⟩ := (Sq.drew HS2.out).sv.map.store (Sq.sv HS2.out).room Hx.out HT.out Hsh.out
      rw [hm7] at hst8
      have hc0 := (Sq.sv HS2.out).cell
      have HS8 : Hid _ := Sq.bind HS2.out Hn.out hm7 (by rw [HX.out]; exact Hv.out) hst8 ((Kp.refl _ _).drew.trans hk8)
      have hkk8 : Kp [bM] w2 w8 := (Kp.refl [bM] _).drew.trans hk8
      have HK8 : Hid (Kp [bM, bQ, sp] w w8) := HK2.out.trans (hkk8.mono (by simp))
      have HB8 : Hid (Box w8 w.heap.size (.int .i64 k) (.int .i64 m) (.string s) (.int .i64 e) (.slice p l.length cap)) := HB2.out.kp hkk8 (by simp <;> omega)
      have hG8 : SolBox w8 sp bM bQ g := HG2.out.kp hkk8 (by simp <;> omega)
      have HG8 : Hid (SolBox w8 sp bM bQ g) := hG8
      have z4 := HB8.out.cells.2.2.2.2
      obtain ⟨_, _, z5⟩ := hG8.cells
      have z6 := hG8.frozen
      have HDD : Hid (∀ y, (upd M2 x (some (.mk k m s e l)) y).isSome = (y == x || (M y).isSome)) := by
        intro y
        rw [← HD2.out y]
        by_cases hy : y = x
        · subst hy; rw [upd_same]; simp
        · rw [upd_other _ _ hy]; simp [hy]
      clear hst8 hk8 hkk8 hm7 hG8
      go_wp2_with fail
      go_region
      by_cases hl : l = []
      · have hl0 : ¬ (0 : Int) < (l.length : Int) := by rw [hl]; simp
        have Hl : Hid (l = []) := hl
        clear hl
        go_wp2
        go_ret
        exact StPost.go _ _ g Hst4.out rfl (by have := HS8.out; rw [HX.out] at this; exact this) HDD.out HK8.out HG8.out (.inl ⟨rfl, Hl.out⟩)
      · have hl0 : (0 : Int) < (l.length : Int) := by have := List.length_pos_iff.2 hl; omega
        clear hl
        go_wp2
        go_ret
        exact StPost.go _ _ (g + 1) Hst4.out rfl (by have := Sq.grown HS8.out HG8.out (g + 1); rw [HX.out] at this; exact this) HDD.out (HK8.out.trans ((Kp.setCell _ ⟨sp, 3, none⟩ (by simp) _))) (SolBox.set HG8.out (g + 1)) (.inr rfl)
end Go.Proofs.Ytbgpjaniohpfaaa
