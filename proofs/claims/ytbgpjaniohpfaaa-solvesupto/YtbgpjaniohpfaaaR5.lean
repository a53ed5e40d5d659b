/-
  The document's own solver: a variable stands for a type (bind).
-/
import Derived.Test.YtbgpjaniohpfaaaR4
namespace Go.Proofs.Ytbgpjaniohpfaaa
open Go.RowKit Go.Deep
theorem Rq.bind {wb w w' : World} {sp bM bQ n nq : Nat} {M : Int → Option Ty} {f : Int → Ty} {q : Int → Int} {V : List Int} {m : Int} {t : Ty} (h : Rq wb w sp bM bQ n nq M f q V) (hn : n + 1 < maxLen) (hm : M m = none) (hv : (t.app f).hasV m = false) (hst : StandsAt noMarks wb w' bM (n + 1) (upd M m (some t))) (hk : Kp [bM] w w') : Rq wb w' sp bM bQ (n + 1) nq (upd M m (some t)) (bindF f m (t.app f)) q V := by
  have hl := h.lt
  exact ⟨⟨h.sv.base.trans (hk.below h.sv.base.size (by simp; exact h.sv.hi.1)), hk.cell h.sv.cell (by simp; omega), hst, h.sv.agr.bind hm (h.sv.agr.full t) hv, h.sv.hi, hn⟩, hk.cell h.cell1 (by simp; omega), h.eq.kp hk (by simp; omega), h.hi⟩
inductive BindPost (wb : World) (sp bM bQ n : Nat) (M : Int → Option Ty) (f : Int → Ty) (q : Int → Int) (V : List Int) (w : World) (x : Int) (T : Ty) (e' : Ending) (w' : World) : Prop
  | stop (c : Int) (h : St.stand ⟨f, q⟩ x (T.app f) = .stop c) (he : e' = .returned (.int .i64 c)) (hk : Kp [bM, bQ] w w') : BindPost wb sp bM bQ n M f q V w x T e' w'
  | go (s1 : St) (nq' : Nat) (h : St.stand ⟨f, q⟩ x (T.app f) = .go s1) (he : e' = .returned (.int .i64 0)) (hS : Rq wb w' sp bM bQ (n + 1) nq' (upd M x (some T)) s1.sub s1.eq V) (hk : Kp [bM, bQ] w w') : BindPost wb sp bM bQ n M f q V w x T e' w'
set_option maxHeartbeats 4000000 in
set_option maxRecDepth 100000 in
theorem bindR_any (wb w : World) (sp bM bQ n nq : Nat) (M : Int → Option Ty) (f : Int → Ty) (q : Int → Int) (V : List Int) (x : Int) (k m : Int) (s : ByteArray) (e : Int) (l : List Ty) (p : Option Addr) (cap : Nat)
    (hS : Rq wb w sp bM bQ n nq M f q V) (hT : TyIn wb [.int .i64 k, .int .i64 m, .string s, .int .i64 e, .slice p l.length cap] (.mk k m s e l)) (hsh : (Ty.mk k m s e l).okm noMarks) (hV : ∀ y, ((Ty.mk k m s e l).app f).hasV y = true → y ∈ V) (hx : (Lit.int .i64 x).wf = true) (hM : M x = none) (hn : n + 1 < maxLen) :
    Calls Try.prog 37 #[.pointer (some ⟨sp, 0, none⟩), .int .i64 x, .agg #[.int .i64 k, .int .i64 m, .string s, .int .i64 e, .slice p l.length cap]] w fun e' w' => BindPost wb sp bM bQ n M f q V w x (.mk k m s e l) e' w' := by
  have hb0 := (Below.refl w.heap.size w).alloc (Nat.le_refl _) (Obj.cells #[Value.int IntKind.i64 k, Value.int IntKind.i64 m, Value.string s, Value.int IntKind.i64 e, Value.slice p l.length cap] 33)
  have hx0 := Box.new w (.int .i64 k) (.int .i64 m) (.string s) (.int .i64 e) (.slice p l.length cap)
  have HcallA : Hid _ := inR_any wb sp bM bQ n nq M f q V x _ _ k m s e l p cap (Nat.le_refl _) (hS.below hb0) hT hsh
  have HcallB : Hid (∀ w', Rq wb w' sp bM bQ n nq M f q V → _) := fun w' h => compareR_any wb sp bM bQ n M f V _ w' nq q k m s e l p cap (Nat.le_refl _) h hT hsh hV
  have HS : Hid (Rq wb w sp bM bQ n nq M f q V) := hS
  have Hb0 : Hid _ := hb0
  have Hx0 : Hid _ := hx0
  have HT : Hid (TyIn wb [.int .i64 k, .int .i64 m, .string s, .int .i64 e, .slice p l.length cap] (.mk k m s e l)) := hT
  have Hsh : Hid ((Ty.mk k m s e l).okm noMarks) := hsh
  have HM : Hid (M x = none) := hM
  have hlt := hS.lt
  clear hb0 hx0 hT hsh hV hS hM
  have Hst : Hid (St.stand ⟨f, q⟩ x ((Ty.mk k m s e l).app f) = if ((Ty.mk k m s e l).app f).hasV x = true then .stop 10 else if q x = 1 then (if (((Ty.mk k m s e l).app f).cmp q).1 = true then .go ⟨bindF f x ((Ty.mk k m s e l).app f), (((Ty.mk k m s e l).app f).cmp q).2⟩ else .stop 11) else .go ⟨bindF f x ((Ty.mk k m s e l).app f), q⟩) := rfl
  go_enter Try.func37, Try.ntmps37
  go_wp2_with fail
  refine Calls.mono HcallA.out ?_
  rintro e1 w1 ⟨rfl, hb⟩
  have hBx := Box.kp (X := []) Hx0.out (Kp.of_below hb) (by simp)
  have hb1 : Below w.heap.size w w1 := Below.trans Hb0.out (hb.mono (by simp))
  clear hb Hb0 Hx0 HcallA
  cases hh : ((Ty.mk k m s e l).app f).hasV x with
  | true =>
    have hst := Hst.out
    rw [if_pos hh] at hst
    have Hs : Hid _ := hst
    clear hst Hst hh
    go_wp2
    go_ret
    exact BindPost.stop 10 Hs.out rfl (Kp.of_below hb1)
  | false =>
    have hst := Hst.out
    rw [if_neg (by rw [hh]; simp)] at hst
    have Hst2 : Hid _ := hst
    have Hh : Hid (((Ty.mk k m s e l).app f).hasV x = false) := hh
    clear hst Hst hh
    have hR1 := HS.out.below hb1
    have hc1 := hR1.cell1
    have hq1 := hR1.eq.look hx
    have HR1 : Hid (Rq wb w1 sp bM bQ n nq M f q V) := hR1
    obtain ⟨z0, z1, z2, z3, z4⟩ := hBx.cells
    have HBx : Hid (Box w1 w.heap.size (.int .i64 k) (.int .i64 m) (.string s) (.int .i64 e) (.slice p l.length cap)) := hBx
    clear hR1 hBx
    by_cases hq : q x = 1
    · have b1 : (q x == 1) = true := by simpa using hq
      have hst := Hst2.out
      rw [if_pos hq] at hst
      have Hst3 : Hid _ := hst
      clear hst hq Hst2
      go_wp2_with fail
      refine Calls.mono (HcallB.out _ HR1.out) ?_
      rintro e2 w2 hp
      cases hp with
      | mk n2 he2 hS2 hk2 =>
      subst he2
      have hB2 := HBx.out.kp hk2 (by simp; omega)
      have hk02 : Kp [bM, bQ] w w2 := (Kp.of_below hb1).trans (hk2.mono (by simp))
      clear z0 z1 z2 z3 z4 hc1 hq1 b1 hk2
      obtain ⟨z0, z1, z2, z3, z4⟩ := hB2.cells
      cases hr : (((Ty.mk k m s e l).app f).cmp q).1 with
      | false =>
        have hst := Hst3.out
        rw [if_neg (by rw [hr]; simp)] at hst
        have Hs : Hid _ := hst
        clear hst Hst3 hr hS2
        go_wp2
        go_ret
        exact BindPost.stop 11 Hs.out rfl hk02
      | true =>
        have hst := Hst3.out
        rw [if_pos hr] at hst
        have Hs : Hid _ := hst
        obtain ⟨w7, hrun, hst7, hk7⟩ := (hS2.sv.map.kp (X := []) (Kp.refl _ _).drew (by simp)).store hS2.sv.room hx HT.out Hsh.out
        rw [HM.out, if_neg (by simp)] at hst7
        have hk27 : Kp [bM] w2 w7 := (Kp.refl _ _).drew.trans hk7
        have HE : Hid (Rq wb w7 sp bM bQ (n + 1) n2 (upd M x (some (.mk k m s e l))) (bindF f x ((Ty.mk k m s e l).app f)) (((Ty.mk k m s e l).app f).cmp q).2 V ∧ Kp [bM, bQ] w w7) := ⟨hS2.bind hn HM.out Hh.out hst7 hk27, hk02.trans (hk27.mono (by simp))⟩
        have hcs := hS2.sv.cell
        clear hst Hst3 hr hS2 hst7 hk7 hk27 hk02
        go_wp2_with fail
        go_region
        all_goals go_wp2
        all_goals go_ret
        all_goals exact BindPost.go _ n2 Hs.out rfl HE.out.1 HE.out.2
    · have b1 : (q x == 1) = false := by simpa using hq
      have hst := Hst2.out
      rw [if_neg hq] at hst
      have Hs : Hid _ := hst
      obtain ⟨w7, hrun, hst7, hk7⟩ := (HR1.out.sv.map.kp (X := []) (Kp.refl _ _).drew (by simp)).store HR1.out.sv.room hx HT.out Hsh.out
      rw [HM.out, if_neg (by simp)] at hst7
      have hk27 : Kp [bM] w1 w7 := (Kp.refl _ _).drew.trans hk7
      have HE : Hid (Rq wb w7 sp bM bQ (n + 1) nq (upd M x (some (.mk k m s e l))) (bindF f x ((Ty.mk k m s e l).app f)) q V ∧ Kp [bM, bQ] w w7) := ⟨HR1.out.bind hn HM.out Hh.out hst7 hk27, (Kp.of_below hb1).trans (hk27.mono (by simp))⟩
      have hcs := HR1.out.sv.cell
      clear hst Hst2 hst7 hk7 hk27 hq
      go_wp2_with fail
      go_region
      all_goals go_wp2
      all_goals go_ret
      all_goals exact BindPost.go _ nq Hs.out rfl HE.out.1 HE.out.2
end Go.Proofs.Ytbgpjaniohpfaaa
