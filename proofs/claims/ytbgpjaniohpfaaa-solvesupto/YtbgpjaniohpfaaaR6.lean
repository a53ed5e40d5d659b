/-
  The document's own solver: two types are made the same (Same).
-/
import Derived.Test.YtbgpjaniohpfaaaR5
import Derived.Test.YtbgpjaniohpfaaaK11
import Derived.Test.YtbgpjaniohpfaaaK16
namespace Go.Proofs.Ytbgpjaniohpfaaa
open Go.RowKit Go.Deep
inductive SameRPost (wb : World) (sp bM bQ n : Nat) (V : List Int) (w : World) (f : Int → Ty) (q : Int → Int) (a b : Ty) (e' : Ending) (w' : World) : Prop
  | fail (e : Int) (s1 : St) (hu : Uni ⟨f, q⟩ [(a, b)] e s1) (h0 : ¬ e = 0) (he : e' = .returned (.int .i64 e)) (hk : Kp [bM, bQ] w w') : SameRPost wb sp bM bQ n V w f q a b e' w'
  | ok (s1 : St) (n1 nq1 : Nat) (M1 : Int → Option Ty) (hu : Uni ⟨f, q⟩ [(a, b)] 0 s1) (he : e' = .returned (.int .i64 0)) (hS : Rq wb w' sp bM bQ n1 nq1 M1 s1.sub s1.eq V) (hB : Bal n1 M1 V) (hn : n ≤ n1 ∧ (n1 = n → s1.sub = f)) (hk : Kp [bM, bQ] w w') : SameRPost wb sp bM bQ n V w f q a b e' w'
theorem SameRPost.ret {wb : World} {sp bM bQ n : Nat} {V : List Int} {w : World} {f : Int → Ty} {q : Int → Int} {a b : Ty} {r : Ending} {w' : World} (h : SameRPost wb sp bM bQ n V w f q a b r w') : ∃ ev : Int, r = .returned (.int .i64 ev) := by
  cases h with
  | fail e _ _ _ he _ => exact ⟨e, he⟩
  | ok _ _ _ _ _ he _ _ _ _ => exact ⟨0, he⟩
theorem SameRPost.of_bind {wb : World} {sp bM bQ n : Nat} {V : List Int} {w w1 : World} {f : Int → Ty} {q : Int → Int} {a b T : Ty} {r : Ending} {w' : World} {M : Int → Option Ty} {x : Int} (hst : St.step ⟨f, q⟩ (a.app f) (b.app f) = St.stand ⟨f, q⟩ x (T.app f)) (h : BindPost wb sp bM bQ n M f q V w1 x T r w') (hk : Kp [bM, bQ] w w1) (hB : Bal n M V) (hx : M x = none) (hV : x ∈ V) : SameRPost wb sp bM bQ n V w f q a b r w' := by
  cases h with
  | stop c h1 h2 h3 => exact SameRPost.fail c ⟨f, q⟩ (Uni.stop _ _ _ _ _ (hst.trans h1)) (St.step_stop_ne (hst.trans h1)) h2 (hk.trans h3)
  | go s1 nq1 h1 h2 h3 h4 =>
    refine SameRPost.ok s1 (n + 1) nq1 (upd M x (some T)) (Uni.go _ _ _ _ _ _ _ (hst.trans h1) (Uni.done s1)) h2 h3 (hB.bind (M' := upd M x (some T)) (m := x) (fun y => ?_) hx hV).1 ⟨Nat.le_succ _, fun h => by omega⟩ (hk.trans h4)
    by_cases hy : y = x
    · subst hy; rw [upd_same]; simp
    · rw [upd_other _ _ hy]; simp [hy]
theorem BindPost.ret {wb : World} {sp bM bQ n : Nat} {M : Int → Option Ty} {f : Int → Ty} {q : Int → Int} {V : List Int} {w : World} {x : Int} {T : Ty} {r : Ending} {w' : World} (h : BindPost wb sp bM bQ n M f q V w x T r w') : ∃ ev : Int, r = .returned (.int .i64 ev) := by
  cases h with
  | stop c _ he _ => exact ⟨c, he⟩
  | go _ _ _ he _ _ => exact ⟨0, he⟩
theorem parts_small (X : Ty) : X.parts 400 ≤ 400 ↔ X.count ≤ 400 := by
  constructor
  · intro h; have := Ty.parts_count X 400 h; omega
  · intro h; have := Ty.parts_of_count X 400 (by omega); omega
/-- What is asked of Same, up to a measure. -/
def SameRAt (wb : World) (sp bM bQ : Nat) (V : List Int) (N : Nat) : Prop :=
  ∀ (w : World) (n nq : Nat) (M : Int → Option Ty) (f : Int → Ty) (q : Int → Int) (k m : Int) (s : ByteArray) (e : Int) (l : List Ty) (p : Option Addr) (cap : Nat) (k' m' : Int) (s' : ByteArray) (e' : Int) (l' : List Ty) (p' : Option Addr) (cap' : Nat)
    (_hS : Rq wb w sp bM bQ n nq M f q V) (_hB : Bal n M V) (_hT : TyIn wb [.int .i64 k, .int .i64 m, .string s, .int .i64 e, .slice p l.length cap] (.mk k m s e l)) (_hsh : (Ty.mk k m s e l).okm noMarks) (_hV : ∀ y, ((Ty.mk k m s e l).app f).hasV y = true → y ∈ V)
    (_hT' : TyIn wb [.int .i64 k', .int .i64 m', .string s', .int .i64 e', .slice p' l'.length cap'] (.mk k' m' s' e' l')) (_hsh' : (Ty.mk k' m' s' e' l').okm noMarks) (_hV' : ∀ y, ((Ty.mk k' m' s' e' l').app f).hasV y = true → y ∈ V), (V.length - n) * 402 + Nat.min ((Ty.mk k m s e l).app f).count 401 < N →
    Calls Try.prog 24 #[.pointer (some ⟨sp, 0, none⟩), .agg #[.int .i64 k, .int .i64 m, .string s, .int .i64 e, .slice p l.length cap], .agg #[.int .i64 k', .int .i64 m', .string s', .int .i64 e', .slice p' l'.length cap']] w fun r w' =>
      SameRPost wb sp bM bQ n V w f q (.mk k m s e l) (.mk k' m' s' e' l') r w'
set_option maxHeartbeats 40000000 in
set_option maxRecDepth 100000 in
theorem sameR_step (wb : World) (sp bM bQ : Nat) (V : List Int) (N : Nat) (hI : SameRAt wb sp bM bQ V N) (w : World) (n nq : Nat) (M : Int → Option Ty) (f : Int → Ty) (q : Int → Int) (k m : Int) (s : ByteArray) (e : Int) (l : List Ty) (p : Option Addr) (cap : Nat) (k' m' : Int) (s' : ByteArray) (e' : Int) (l' : List Ty) (p' : Option Addr) (cap' : Nat)
    (hS : Rq wb w sp bM bQ n nq M f q V) (hB : Bal n M V) (hT : TyIn wb [.int .i64 k, .int .i64 m, .string s, .int .i64 e, .slice p l.length cap] (.mk k m s e l)) (hsh : (Ty.mk k m s e l).okm noMarks) (hV : ∀ y, ((Ty.mk k m s e l).app f).hasV y = true → y ∈ V)
    (hT' : TyIn wb [.int .i64 k', .int .i64 m', .string s', .int .i64 e', .slice p' l'.length cap'] (.mk k' m' s' e' l')) (hsh' : (Ty.mk k' m' s' e' l').okm noMarks) (hV' : ∀ y, ((Ty.mk k' m' s' e' l').app f).hasV y = true → y ∈ V) (hN : (V.length - n) * 402 + Nat.min ((Ty.mk k m s e l).app f).count 401 < N + 1) :
    Calls Try.prog 24 #[.pointer (some ⟨sp, 0, none⟩), .agg #[.int .i64 k, .int .i64 m, .string s, .int .i64 e, .slice p l.length cap], .agg #[.int .i64 k', .int .i64 m', .string s', .int .i64 e', .slice p' l'.length cap']] w fun r w' =>
      SameRPost wb sp bM bQ n V w f q (.mk k m s e l) (.mk k' m' s' e' l') r w' := by
  have hlt := hS.lt
  have hhi := hS.hi
  have hb2 := ((Below.refl w.heap.size w).alloc (Nat.le_refl _) (Obj.cells #[Value.int IntKind.i64 k, Value.int IntKind.i64 m, Value.string s, Value.int IntKind.i64 e, Value.slice p l.length cap] 33)).alloc (by simp) (Obj.cells #[Value.int IntKind.i64 k', Value.int IntKind.i64 m', Value.string s', Value.int IntKind.i64 e', Value.slice p' l'.length cap'] 33)
  have hA2 := (Box.new w (.int .i64 k) (.int .i64 m) (.string s) (.int .i64 e) (.slice p l.length cap)).kp (Kp.alloc [] _ (Obj.cells #[Value.int IntKind.i64 k', Value.int IntKind.i64 m', Value.string s', Value.int IntKind.i64 e', Value.slice p' l'.length cap'] 33)) (by simp)
  have hB2 := Box.new (w.alloc (Obj.cells #[Value.int IntKind.i64 k, Value.int IntKind.i64 m, Value.string s, Value.int IntKind.i64 e, Value.slice p l.length cap] 33)) (.int .i64 k') (.int .i64 m') (.string s') (.int .i64 e') (.slice p' l'.length cap')
  rw [heap_size_alloc] at hB2
  have HgA : Hid (∀ w', Rq wb w' sp bM bQ n nq M f q V → _) := fun w' h => greatR_any wb sp bM bQ n nq M f q V _ w' k m s e l p cap 400 (Nat.le_refl _) h hT hsh (by omega) (by omega)
  have HgB : Hid (∀ w', Rq wb w' sp bM bQ n nq M f q V → _) := fun w' h => greatR_any wb sp bM bQ n nq M f q V _ w' k' m' s' e' l' p' cap' 400 (Nat.le_refl _) h hT' hsh' (by omega) (by omega)
  have HtA : Hid (∀ w', Rq wb w' sp bM bQ n nq M f q V → _) := fun w' h => topR_any wb w' sp bM bQ n nq M f q V k m s e l p cap h hT hsh
  have HtB : Hid (∀ w', Rq wb w' sp bM bQ n nq M f q V → _) := fun w' h => topR_any wb w' sp bM bQ n nq M f q V k' m' s' e' l' p' cap' h hT' hsh'
  have HS : Hid (Rq wb w sp bM bQ n nq M f q V) := hS
  have HV : Hid (∀ y, ((Ty.mk k m s e l).app f).hasV y = true → y ∈ V) := hV
  have HV' : Hid (∀ y, ((Ty.mk k' m' s' e' l').app f).hasV y = true → y ∈ V) := hV'
  have HB : Hid (Bal n M V) := hB
  have HI : Hid (SameRAt wb sp bM bQ V N) := hI
  have HN : Hid ((V.length - n) * 402 + Nat.min ((Ty.mk k m s e l).app f).count 401 < N + 1) := hN
  generalize hXA : ((Ty.mk k m s e l).app f) = XA at *
  generalize hXB : ((Ty.mk k' m' s' e' l').app f) = XB at *
  have HXA : Hid ((Ty.mk k m s e l).app f = XA) := hXA
  have HXB : Hid ((Ty.mk k' m' s' e' l').app f = XB) := hXB
  have HpA : Hid (XA.parts 400 ≤ 400 ↔ XA.count ≤ 400) := parts_small XA
  have HpB : Hid (XB.parts 400 ≤ 400 ↔ XB.count ≤ 400) := parts_small XB
  generalize XA.parts 400 = PA at *
  generalize XB.parts 400 = PB at *
  have Hb2 : Hid _ := hb2
  have HA2 : Hid _ := hA2
  have HB2 : Hid _ := hB2
  clear hI hN hXA hXB hS hT hsh hV hT' hsh' hV' hB hb2 hA2 hB2
  go_enter Try.func24, Try.ntmps24
  go_wp2_with fail
  generalize (w.alloc (Obj.cells #[Value.int IntKind.i64 k, Value.int IntKind.i64 m, Value.string s, Value.int IntKind.i64 e, Value.slice p l.length cap] 33)).alloc (Obj.cells #[Value.int IntKind.i64 k', Value.int IntKind.i64 m', Value.string s', Value.int IntKind.i64 e', Value.slice p' l'.length cap'] 33) = w2 at *
  refine Calls.mono (HgA.out w2 (HS.out.below Hb2.out)) ?_
  rintro e1 w3 ⟨rfl, hb3⟩
  have HA3 : Hid _ := Box.kp (X := []) HA2.out (Kp.of_below hb3) (by simp)
  have HB3 : Hid _ := Box.kp (X := []) HB2.out (Kp.of_below hb3) (by simp)
  have Hb3 : Hid (Below w.heap.size w w3) := Below.trans Hb2.out (hb3.mono (Below.size Hb2.out))
  clear hb3 HA2 HB2 Hb2 HgA
  obtain ⟨y0, y1, y2, y3, y4⟩ := Box.cells HB3.out
  by_cases hA : 400 < PA
  · have Hstep : Hid (St.step ⟨f, q⟩ XA XB = .stop 12) := by
      unfold Hid St.step
      rw [if_pos (.inl (by have := HpA.out; omega))]
    clear y0 y1 y2 y3 y4
    go_wp2
    go_ret
    exact SameRPost.fail 12 ⟨f, q⟩ (Uni.stop _ _ _ _ _ (by show St.step ⟨f, q⟩ ((Ty.mk k m s e l).app f) ((Ty.mk k' m' s' e' l').app f) = _; rw [HXA.out, HXB.out]; exact Hstep.out)) (by decide) rfl (Kp.of_below Hb3.out)
  · go_wp2_with fail
    refine Calls.mono (HgB.out w3 (HS.out.below Hb3.out)) ?_
    rintro e1 w4 ⟨rfl, hb4⟩
    have HA4 : Hid _ := Box.kp (X := []) HA3.out (Kp.of_below hb4) (by simp)
    have HB4 : Hid _ := Box.kp (X := []) HB3.out (Kp.of_below hb4) (by simp)
    have Hb4 : Hid (Below w.heap.size w w4) := Below.trans Hb3.out (hb4.mono (Below.size Hb3.out))
    clear hb4 HA3 HB3 Hb3 HgB y0 y1 y2 y3 y4
    obtain ⟨x0, x1, x2, x3, x4⟩ := Box.cells HA4.out
    by_cases hB : 400 < PB
    · have Hstep : Hid (St.step ⟨f, q⟩ XA XB = .stop 12) := by
        unfold Hid St.step
        rw [if_pos (.inr (by have := HpB.out; omega))]
      clear x0 x1 x2 x3 x4
      go_wp2
      go_ret
      exact SameRPost.fail 12 ⟨f, q⟩ (Uni.stop _ _ _ _ _ (by show St.step ⟨f, q⟩ ((Ty.mk k m s e l).app f) ((Ty.mk k' m' s' e' l').app f) = _; rw [HXA.out, HXB.out]; exact Hstep.out)) (by decide) rfl (Kp.of_below Hb4.out)
    · have Hsm : Hid (XA.count ≤ 400 ∧ XB.count ≤ 400) := ⟨by have := HpA.out; omega, by have := HpB.out; omega⟩
      go_wp2_with fail
      refine Calls.mono (HtA.out w4 (HS.out.below Hb4.out)) ?_
      rintro e1 w5 hp
      cases hp with
      | mk ka ma sa ea la pa capa he ht hs hf hu hb hq9 =>
      subst he
      clear hq9
      have HEA : Hid (OnTop f ka ma sa ea la XA) := OnTop.of HS.out.sv.agr hf hu hs
      have HAt : Hid (TyIn wb [.int .i64 ka, .int .i64 ma, .string sa, .int .i64 ea, .slice pa la.length capa] (.mk ka ma sa ea la)) := ht
      have HAs : Hid ((Ty.mk ka ma sa ea la).okm noMarks) := hs
      have HAe : Hid ((Ty.mk ka ma sa ea la).app f = XA) := (HS.out.sv.agr.eq hf).symm
      have HFA : Hid (ka = 0 → M ma = none) := hu
      have hA5 := Box.kp (X := []) HA4.out (Kp.of_below hb) (by simp)
      have HB5 : Hid _ := Box.kp (X := []) HB4.out (Kp.of_below hb) (by simp)
      have hb5 : Below w.heap.size w w5 := Below.trans Hb4.out (hb.mono (Below.size Hb4.out))
      clear ht hs hf hu hb HA4 HB4 Hb4 HtA x0 x1 x2 x3 x4 hA hB HpA HpB
      go_wp2_with (refine wpList_store5 rfl _ _ rfl rfl _ rfl rfl hA5 (one5 _ _ _ _ _ _ _) ?_; intro w6 hA6 hk6; obtain ⟨y0, y1, y2, y3, y4⟩ := (Box.kp HB5.out hk6 (by simp)).cells)
      have hB6 := Box.kp HB5.out hk6 (by simp)
      have hb6 : Below w.heap.size w w6 := hb5.trans (hk6.below hb5.size (by simp))
      clear hA5 HB5 hb5 hk6
      refine Calls.mono (HtB.out w6 (HS.out.below hb6)) ?_
      rintro e1 w7 hp
      cases hp with
      | mk kb mb sb eb lb pb capb he ht hs hf hu hb hq9 =>
      subst he
      clear hq9
      have HEB : Hid (OnTop f kb mb sb eb lb XB) := OnTop.of HS.out.sv.agr hf hu hs
      have HBt : Hid (TyIn wb [.int .i64 kb, .int .i64 mb, .string sb, .int .i64 eb, .slice pb lb.length capb] (.mk kb mb sb eb lb)) := ht
      have HBs : Hid ((Ty.mk kb mb sb eb lb).okm noMarks) := hs
      have HBe : Hid ((Ty.mk kb mb sb eb lb).app f = XB) := (HS.out.sv.agr.eq hf).symm
      have HFB : Hid (kb = 0 → M mb = none) := hu
      have hB7 := Box.kp (X := []) hB6 (Kp.of_below hb) (by simp)
      have HA7 : Hid _ := Box.kp (X := []) hA6 (Kp.of_below hb) (by simp)
      have hb7 : Below w.heap.size w w7 := hb6.trans (hb.mono hb6.size)
      clear ht hs hf hu hb hA6 hB6 hb6 HtB y0 y1 y2 y3 y4
      go_upto_region 5 with (refine wpList_store5 rfl _ _ rfl rfl _ rfl rfl hB7 (one5 _ _ _ _ _ _ _) ?_; intro w8 hB8 hk8)
      have hA8 := Box.kp HA7.out hk8 (by simp)
      have hb8 : Below w.heap.size w w8 := hb7.trans (hk8.below hb7.size (by simp))
      have HR8 : Hid (Rq wb w8 sp bM bQ n nq M f q V) := HS.out.below hb8
      obtain ⟨x0, x1, x2, x3, x4⟩ := hA8.cells
      obtain ⟨y0, y1, y2, y3, y4⟩ := hB8.cells
      have HA8 : Hid (Box w8 w.heap.size (.int .i64 ka) (.int .i64 ma) (.string sa) (.int .i64 ea) (.slice pa la.length capa)) := hA8
      have HB8 : Hid (Box w8 (w.heap.size + 1) (.int .i64 kb) (.int .i64 mb) (.string sb) (.int .i64 eb) (.slice pb lb.length capb)) := hB8
      have Hb8 : Hid (Below w.heap.size w w8) := hb8
      clear hA8 hB8 hb8 hk8 hB7 HA7 hb7
      by_cases ha : ka = 0
      · have ba : (ka == 0) = true := by simpa using ha
        obtain ⟨hla, hXa⟩ := HEA.out.var ha
        have hMx := HFA.out ha
        have hVx : ma ∈ V := HV.out ma (by rw [hXa, Ty.hasV_vr]; simp)
        by_cases hb : kb = 0
        · have bb : (kb == 0) = true := by simpa using hb
          obtain ⟨hlb, hXb⟩ := HEB.out.var hb
          by_cases hm : ma = mb
          · have bm : (ma == mb) = true := by simpa using hm
            have Hstep : Hid (St.step ⟨f, q⟩ XA XB = .go ⟨f, q⟩) := step_twice Hsm.out (by rw [hXa]; rfl) (by rw [hXb]; rfl) (by rw [hXa, hXb]; exact hm)
            clear ha hb hm hXa hXb hla hlb hMx hVx
            go_wp2
            go_ret
            exact SameRPost.ok ⟨f, q⟩ n nq M (Uni.go _ _ _ _ _ _ _ (by show St.step ⟨f, q⟩ ((Ty.mk k m s e l).app f) ((Ty.mk k' m' s' e' l').app f) = _; rw [HXA.out, HXB.out]; exact Hstep.out) (Uni.done _)) rfl HR8.out HB.out ⟨Nat.le_refl _, fun _ => rfl⟩ (Kp.of_below Hb8.out)
          · have bm : (ma == mb) = false := by simpa using hm
            have hstep : St.step ⟨f, q⟩ XA XB = St.stand ⟨f, q⟩ ma XB := by
              rw [step_left (s := ⟨f, q⟩) Hsm.out (A := XA) (B := XB) (by rw [hXa]; rfl) (by rw [hXa, hXb]; intro h; exact hm h.2), hXa]
              rfl
            have hcall := bindR_any wb w8 sp bM bQ n nq M f q V ma kb mb sb eb lb pb capb HR8.out HBt.out HBs.out (by rw [HBe.out]; exact HV'.out) (shaped_wf HAt.out).2.1 hMx (HB.out.room1 hMx (by simpa using hVx))
            have Hcall : Hid _ := hcall
            have HMx : Hid (M ma = none) := hMx
            have HVx : Hid (ma ∈ V) := hVx
            have Hstep : Hid (St.step ⟨f, q⟩ ((Ty.mk k m s e l).app f) ((Ty.mk k' m' s' e' l').app f) = St.stand ⟨f, q⟩ ma ((Ty.mk kb mb sb eb lb).app f)) := by
              unfold Hid
              rw [HXA.out, HXB.out, HBe.out]
              exact hstep
            clear hcall hMx hVx hstep
            clear ha hb hm hXa hXb hla hlb
            go_wp2_with fail
            refine Calls.mono Hcall.out ?_
            rintro e10 w9 hp
            obtain ⟨ev, rfl⟩ := hp.ret
            have Hp2 : Hid _ := SameRPost.of_bind (a := .mk k m s e l) (b := .mk k' m' s' e' l') Hstep.out hp (Kp.of_below Hb8.out) HB.out HMx.out HVx.out
            clear hp
            go_wp2
            go_ret
            exact Hp2.out
        · have bb : (kb == 0) = false := by simpa using hb
          have hXb := HEB.out.arg hb
          have hstep : St.step ⟨f, q⟩ XA XB = St.stand ⟨f, q⟩ ma XB := by
            rw [step_left (s := ⟨f, q⟩) Hsm.out (A := XA) (B := XB) (by rw [hXa]; rfl) (by rw [hXb]; intro h; exact hb h.1), hXa]
            rfl
          have hcall := bindR_any wb w8 sp bM bQ n nq M f q V ma kb mb sb eb lb pb capb HR8.out HBt.out HBs.out (by rw [HBe.out]; exact HV'.out) (shaped_wf HAt.out).2.1 hMx (HB.out.room1 hMx (by simpa using hVx))
          have Hcall : Hid _ := hcall
          have HMx : Hid (M ma = none) := hMx
          have HVx : Hid (ma ∈ V) := hVx
          have Hstep : Hid (St.step ⟨f, q⟩ ((Ty.mk k m s e l).app f) ((Ty.mk k' m' s' e' l').app f) = St.stand ⟨f, q⟩ ma ((Ty.mk kb mb sb eb lb).app f)) := by
            unfold Hid
            rw [HXA.out, HXB.out, HBe.out]
            exact hstep
          clear hcall hMx hVx hstep
          clear ha hb hXa hXb hla
          go_wp2_with fail
          refine Calls.mono Hcall.out ?_
          rintro e10 w9 hp
          obtain ⟨ev, rfl⟩ := hp.ret
          have Hp2 : Hid _ := SameRPost.of_bind (a := .mk k m s e l) (b := .mk k' m' s' e' l') Hstep.out hp (Kp.of_below Hb8.out) HB.out HMx.out HVx.out
          clear hp
          go_wp2
          go_ret
          exact Hp2.out
      · have ba : (ka == 0) = false := by simpa using ha
        have hXa := HEA.out.arg ha
        by_cases hb : kb = 0
        · have bb : (kb == 0) = true := by simpa using hb
          obtain ⟨hlb, hXb⟩ := HEB.out.var hb
          have hMx := HFB.out hb
          have hVx : mb ∈ V := HV'.out mb (by rw [hXb, Ty.hasV_vr]; simp)
          have hstep : St.step ⟨f, q⟩ XA XB = St.stand ⟨f, q⟩ mb XA := by
            rw [step_right (s := ⟨f, q⟩) Hsm.out (A := XA) (B := XB) (by rw [hXa]; exact ha) (by rw [hXb]; rfl), hXb]
            rfl
          have hcall := bindR_any wb w8 sp bM bQ n nq M f q V mb ka ma sa ea la pa capa HR8.out HAt.out HAs.out (by rw [HAe.out]; exact HV.out) (shaped_wf HBt.out).2.1 hMx (HB.out.room1 hMx (by simpa using hVx))
          have Hcall : Hid _ := hcall
          have HMx : Hid (M mb = none) := hMx
          have HVx : Hid (mb ∈ V) := hVx
          have Hstep : Hid (St.step ⟨f, q⟩ ((Ty.mk k m s e l).app f) ((Ty.mk k' m' s' e' l').app f) = St.stand ⟨f, q⟩ mb ((Ty.mk ka ma sa ea la).app f)) := by
            unfold Hid
            rw [HXA.out, HXB.out, HAe.out]
            exact hstep
          clear hcall hMx hVx hstep
          clear ha hb hXa hXb hlb
          go_wp2_with fail
          refine Calls.mono Hcall.out ?_
          rintro e10 w9 hp
          obtain ⟨ev, rfl⟩ := hp.ret
          have Hp2 : Hid _ := SameRPost.of_bind (a := .mk k m s e l) (b := .mk k' m' s' e' l') Hstep.out hp (Kp.of_below Hb8.out) HB.out HMx.out HVx.out
          clear hp
          go_wp2
          go_ret
          exact Hp2.out
        · have bb : (kb == 0) = false := by simpa using hb
          have hXb := HEB.out.arg hb
          have htop : XA.top XB = (ka == kb && sa.data.toList == sb.data.toList && ma == mb && la.length == lb.length) := by rw [hXa, hXb]; simp [Ty.top, Ty.kind, Ty.nam, Ty.num, Ty.args]
          by_cases h1 : ka = kb
          · have b1 : (ka != kb) = false := by simp [h1]
            by_cases h2 : sa.data.toList = sb.data.toList
            · have b2 : (sa.toList == sb.toList) = true := by rw [Lib.toList_data, Lib.toList_data, beq_iff_eq]; exact h2
              by_cases h3 : ma = mb
              · have b3 : (ma != mb) = false := by simp [h3]
                by_cases h4 : la.length = lb.length
                · have b4 : ((la.length : Int) != (lb.length : Int)) = false := by simp [h4]
                  have ht : XA.top XB = true := by rw [htop]; simp [h1, h2, h3, h4]
                  have hstep : St.step ⟨f, q⟩ XA XB = .into (pairsOf f la lb) := by
                    rw [step_into (s := ⟨f, q⟩) Hsm.out (by rw [hXa]; exact ha) (by rw [hXb]; exact hb) ht, hXa, hXb]
                    rfl
                  have hlen : la.length = lb.length := h4
                  have Hstep : Hid (St.step ⟨f, q⟩ XA XB = .into (pairsOf f la lb)) := hstep
                  have Hlen : Hid (la.length = lb.length) := hlen
                  have hgood : Good f := HR8.out.sv.agr.good
                  have hovA : ∀ x ∈ la, Over V f x := by
                    intro x hx y hy
                    exact HV.out y (by rw [hXa, Ty.hasV_mk ha, List.any_eq_true]; exact ⟨_, List.mem_map.2 ⟨x, hx, rfl⟩, hy⟩)
                  have hovB : ∀ x ∈ lb, Over V f x := by
                    intro x hx y hy
                    exact HV'.out y (by rw [hXb, Ty.hasV_mk hb, List.any_eq_true]; exact ⟨_, List.mem_map.2 ⟨x, hx, rfl⟩, hy⟩)
                  have hcA : ∀ i (hi : i < la.length), ((la[i]'hi).app f).count < XA.count := by
                    intro i hi
                    rw [hXa]
                    have := Ty.count_arg (k := ka) (n := ma) (s := sa) (e := ea) (l := la.map (Ty.app f)) i (by simpa using hi)
                    rwa [List.getElem_map] at this
                  have hcB : ∀ i (hi : i < lb.length), ((lb[i]'hi).app f).count < XB.count := by
                    intro i hi
                    rw [hXb]
                    have := Ty.count_arg (k := kb) (n := mb) (s := sb) (e := eb) (l := lb.map (Ty.app f)) i (by simpa using hi)
                    rwa [List.getElem_map] at this
                  have Hgood : Hid (Good f) := hgood
                  have HovA : Hid (∀ x ∈ la, Over V f x) := hovA
                  have HovB : Hid (∀ x ∈ lb, Over V f x) := hovB
                  have HcA : Hid (∀ i (hi : i < la.length), ((la[i]'hi).app f).count < XA.count) := hcA
                  have HcB : Hid (∀ i (hi : i < lb.length), ((lb[i]'hi).app f).count < XB.count) := hcB
                  obtain ⟨pp, cp, hcs, hl1, hl2, hel⟩ := HAt.out.elem
                  obtain ⟨rfl, rfl⟩ : pa = pp ∧ capa = cp := by simpa using hcs
                  obtain ⟨pp', cp', hcs', hl1', hl2', hel'⟩ := HBt.out.elem
                  obtain ⟨rfl, rfl⟩ : pb = pp' ∧ capb = cp' := by simpa using hcs'
                  have Hel : Hid _ := hel
                  have Hel' : Hid _ := hel'
                  unfold maxLen at hl1 hl1'
                  clear hgood hovA hovB hcA hcB hcs hcs' hel hel' hstep ht htop hXa hXb ha hb h1 h2 h3 h4 hlen HV HV' HFA HFB HEA HEB
                  go_wp2_with fail
                  clear x0 x1 x2 x3 x4 y0 y1 y2 y3 y4 ba bb b1 b2 b3 b4
                  go_loopg [7] la.length (fun g iv wr => ∃ (i : Nat), iv = .int .i64 i ∧ i ≤ la.length ∧ g = la.length - i ∧ Hid (∃ (s1 : St) (n1 nq1 : Nat) (M1 : Int → Option Ty), Uni ⟨f, q⟩ ((pairsOf f la lb).take i) 0 s1 ∧ Rq wb wr sp bM bQ n1 nq1 M1 s1.sub s1.eq V ∧ Bal n1 M1 V ∧ (n ≤ n1 ∧ (n1 = n → s1.sub = f)) ∧ Kp [bM, bQ] w wr ∧ Box wr w.heap.size (.int .i64 ka) (.int .i64 ma) (.string sa) (.int .i64 ea) (.slice pa la.length capa) ∧ Box wr (w.heap.size + 1) (.int .i64 kb) (.int .i64 mb) (.string sb) (.int .i64 eb) (.slice pb lb.length capb)))
                  case atStart => exact ⟨0, rfl, by omega, by omega, ⟨f, q⟩, n, nq, M, by rw [List.take_zero]; exact Uni.done _, HR8.out, HB.out, ⟨Nat.le_refl _, fun _ => rfl⟩, Kp.of_below Hb8.out, HA8.out, HB8.out⟩
                  case round =>
                    clear HR8 Hb8 HA8 HB8
                    obtain ⟨i, rfl, hi1, rfl, HRR⟩ := hrel
                    by_cases hi : i < la.length
                    · have hi' : (i : Int) < la.length := by omega
                      have hi2 : i < lb.length := by have := Hlen.out; omega
                      have hi2' : (i : Int) < lb.length := by omega
                      obtain ⟨b, o, k1, n1, s1, e1, l1, p1, cap1, rfl, hli, g0, g1, g2, g3, g4, hbw, hty⟩ := Hel.out i hi
                      obtain ⟨b', o', k2, n2, s2, e2, l2, p2, cap2, rfl, hli', x0, x1, x2, x3, x4, hbw', hty'⟩ := Hel'.out i hi2
                      obtain ⟨sr, nr, nqr, Mr, r1, r2, r3, r4, r5, r6, r7⟩ := HRR.out
                      clear HRR
                      have hb := r2.sv.base
                      rw [← hb.cell (p := ⟨b, o + i * 5, none⟩) hbw] at g0
                      rw [← hb.cell (p := ⟨b, o + i * 5 + 1, none⟩) hbw] at g1
                      rw [← hb.cell (p := ⟨b, o + i * 5 + 2, none⟩) hbw] at g2
                      rw [← hb.cell (p := ⟨b, o + i * 5 + 3, none⟩) hbw] at g3
                      rw [← hb.cell (p := ⟨b, o + i * 5 + 4, none⟩) hbw] at g4
                      rw [← hb.cell (p := ⟨b', o' + i * 5, none⟩) hbw'] at x0
                      rw [← hb.cell (p := ⟨b', o' + i * 5 + 1, none⟩) hbw'] at x1
                      rw [← hb.cell (p := ⟨b', o' + i * 5 + 2, none⟩) hbw'] at x2
                      rw [← hb.cell (p := ⟨b', o' + i * 5 + 3, none⟩) hbw'] at x3
                      rw [← hb.cell (p := ⟨b', o' + i * 5 + 4, none⟩) hbw'] at x4
                      have hbr := Nat.lt_of_lt_of_le hbw hb.size
                      have hbr' := Nat.lt_of_lt_of_le hbw' hb.size
                      have a4 := r6.cells.2.2.2.2
                      have c4 := r7.cells.2.2.2.2
                      have hov := fun x hx => r1.over Hgood.out (pairs_over Hgood.out HovA.out HovB.out i) x hx
                      have hvA : ∀ y, ((la[i]'hi).app sr.sub).hasV y = true → y ∈ V := fun y hy => hov _ (HovA.out _ (List.getElem_mem hi)) y hy
                      have hvB : ∀ y, ((lb[i]'hi2).app sr.sub).hasV y = true → y ∈ V := fun y hy => hov _ (HovB.out _ (List.getElem_mem hi2)) y hy
                      have hmes : (V.length - nr) * 402 + Nat.min ((la[i]'hi).app sr.sub).count 401 < N := by
                        have h1 := HN.out
                        have h2 := Hsm.out
                        have h3 : Nat.min XA.count 401 = XA.count := Nat.min_eq_left (by omega)
                        rw [h3] at h1
                        have h6 : Nat.min ((la[i]'hi).app sr.sub).count 401 ≤ 401 := Nat.min_le_right _ _
                        have h7 : Nat.min ((la[i]'hi).app sr.sub).count 401 ≤ ((la[i]'hi).app sr.sub).count := Nat.min_le_left _ _
                        have h8 := r3.sum
                        have h9 := HcA.out i hi
                        by_cases hh : nr = n
                        · rw [r4.2 hh] at h6 h7 ⊢
                          subst hh
                          omega
                        · have h10 : V.length - nr + 1 ≤ V.length - n := by have := r4.1; omega
                          have h11 : (V.length - nr + 1) * 402 ≤ (V.length - n) * 402 := Nat.mul_le_mul_right _ h10
                          have h12 := Full.count_pos XA
                          omega
                      have hshA := okm_arg HAs.out i hi
                      have hshB := okm_arg HBs.out i hi2
                      have hmore := fun {e : Int} {s2 : St} (ku : Uni sr [(la[i]'hi, lb[i]'hi2)] e s2) => r1.more Hgood.out hi hi2 ku
                      rw [hli] at hvA hmes hshA hty
                      rw [hli'] at hvB hshB hty'
                      have hcall := HI.out wr.drew nr nqr Mr sr.sub sr.eq k1 n1 s1 e1 l1 p1 cap1 k2 n2 s2 e2 l2 p2 cap2 (r2.kp (X := []) (Kp.refl _ _).drew (by simp)) r3 hty hshA hvA hty' hshB hvB hmes
                      have Hcall : Hid _ := hcall
                      have Hmore : Hid (∀ (ez : Int) (sz : St), Uni sr [(.mk k1 n1 s1 e1 l1, .mk k2 n2 s2 e2 l2)] ez sz → Uni ⟨f, q⟩ ((pairsOf f la lb).take (i + 1)) ez sz) := by
                        intro ez sz ku
                        rw [← hli, ← hli'] at ku
                        exact hmore ku
                      have R4 : Hid (n ≤ nr ∧ (nr = n → sr.sub = f)) := r4
                      have R5 : Hid (Kp [bM, bQ] w wr.drew) := r5.drew
                      have R6 : Hid (Box wr.drew w.heap.size (.int .i64 ka) (.int .i64 ma) (.string sa) (.int .i64 ea) (.slice (some ⟨b, o, none⟩) la.length capa)) := r6.kp (X := []) (Kp.refl _ _).drew (by simp)
                      have R7 : Hid (Box wr.drew (w.heap.size + 1) (.int .i64 kb) (.int .i64 mb) (.string sb) (.int .i64 eb) (.slice (some ⟨b', o', none⟩) lb.length capb)) := r7.kp (X := []) (Kp.refl _ _).drew (by simp)
                      clear hcall hmore hty hty' hli hli' hb r1 r2 r3 r4 r5 r6 r7 hov hvA hvB hmes hshA hshB Hel Hel' HI
                      go_wp2_with fail
                      go_region_with (go_at_call 24; refine Calls.mono Hcall.out ?_; rintro e10 w7 hp; obtain ⟨ev, rfl⟩ := hp.ret; have Hp : Hid _ := hp; clear hp)
                      all_goals clear Hcall g0 g1 g2 g3 g4 x0 x1 x2 x3 x4 a4 c4
                      all_goals cases Hp.out
                      all_goals clear Hp
                      all_goals first
                        | (rename_i ez sz h1 h2 h3 h4
                           have hez : ev = ez := by injection h3 with h3; injection h3
                           subst hez
                           have hz : (ev != 0) = true := by simpa using h2
                           have H1 : Hid _ := h1
                           have H2 : Hid (¬ ev = 0) := h2
                           have H4 : Hid _ := h4
                           clear h1 h2 h3 h4
                           go_wp2
                           go_ret
                           exact SameRPost.fail ev sz (Uni.into _ _ _ _ _ (pairsOf f la lb) _ (by show St.step ⟨f, q⟩ ((Ty.mk k m s e l).app f) ((Ty.mk k' m' s' e' l').app f) = _; rw [HXA.out, HXB.out]; exact Hstep.out) (by rw [List.append_nil]; exact Uni.whole (Hmore.out _ _ H1.out) H2.out)) H2.out rfl (R5.out.trans H4.out))
                        | (rename_i sz nz nqz Mz h1 h2 h3 h4 h5 h6
                           have hez : ev = 0 := by injection h2 with h2; injection h2
                           subst hez
                           have q1 := Hmore.out _ _ h1
                           have q4 : n ≤ nz ∧ (nz = n → sz.sub = f) := ⟨Nat.le_trans R4.out.1 h5.1, fun h => by have := R4.out.1; have := h5.1; rw [h5.2 (by omega), R4.out.2 (by omega)]⟩
                           have q5 := R5.out.trans h6
                           have q6 := R6.out.kp h6 (by simp <;> omega)
                           have q7 := R7.out.kp h6 (by simp <;> omega)
                           have Q : Hid _ := (show (∃ (s1 : St) (n1 nq1 : Nat) (M1 : Int → Option Ty), Uni ⟨f, q⟩ ((pairsOf f la lb).take (i + 1)) 0 s1 ∧ Rq wb w7 sp bM bQ n1 nq1 M1 s1.sub s1.eq V ∧ Bal n1 M1 V ∧ (n ≤ n1 ∧ (n1 = n → s1.sub = f)) ∧ Kp [bM, bQ] w w7 ∧ Box w7 w.heap.size (.int .i64 ka) (.int .i64 ma) (.string sa) (.int .i64 ea) (.slice (some ⟨b, o, none⟩) la.length capa) ∧ Box w7 (w.heap.size + 1) (.int .i64 kb) (.int .i64 mb) (.string sb) (.int .i64 eb) (.slice (some ⟨b', o', none⟩) lb.length capb)) from ⟨sz, nz, nqz, Mz, q1, h3, h4, q4, q5, q6, q7⟩)
                           clear h1 h2 h3 h4 h5 h6 q1 q4 q5 q6 q7
                           go_wp2
                           go_roundg (la.length - (i + 1))
                           case measure => omega
                           case rel => exact ⟨i + 1, by first | rfl | (congr 1; omega) | go_num, by omega, rfl, Q⟩)
                    · have hi' : ¬ (i : Int) < la.length := by omega
                      have a4 : wr.cell? ⟨w.heap.size, 4, none⟩ = some (.slice pa la.length capa) := by
                        obtain ⟨_, _, _, _, _, _, _, _, _, r6, _⟩ := HRR.out
                        exact r6.cells.2.2.2.2
                      go_wp2
                      go_ret
                      obtain ⟨sr, nr, nqr, Mr, r1, r2, r3, r4, r5, r6, r7⟩ := HRR.out
                      rw [List.take_of_length_le (by rw [pairs_len f Hlen.out]; omega)] at r1
                      exact SameRPost.ok sr nr nqr Mr (Uni.into _ _ _ _ _ (pairsOf f la lb) _ (by show St.step ⟨f, q⟩ ((Ty.mk k m s e l).app f) ((Ty.mk k' m' s' e' l').app f) = _; rw [HXA.out, HXB.out]; exact Hstep.out) (by rw [List.append_nil]; exact r1)) rfl r2 r3 r4 r5
                · have b4 : ((la.length : Int) != (lb.length : Int)) = true := by simp; omega
                  have Hstep : Hid (St.step ⟨f, q⟩ XA XB = .stop 9) := step_clash Hsm.out (by rw [hXa]; exact ha) (by rw [hXb]; exact hb) (by rw [htop]; simp [h4])
                  clear ha hb hXa hXb htop h1 h2 h3 h4
                  go_wp2
                  go_ret
                  exact SameRPost.fail 9 ⟨f, q⟩ (Uni.stop _ _ _ _ _ (by show St.step ⟨f, q⟩ ((Ty.mk k m s e l).app f) ((Ty.mk k' m' s' e' l').app f) = .stop 9; rw [HXA.out, HXB.out]; exact Hstep.out)) (by decide) rfl (Kp.of_below Hb8.out)
              · have b3 : (ma != mb) = true := by simpa using h3
                have Hstep : Hid (St.step ⟨f, q⟩ XA XB = .stop 9) := step_clash Hsm.out (by rw [hXa]; exact ha) (by rw [hXb]; exact hb) (by rw [htop]; simp [h3])
                clear ha hb hXa hXb htop h1 h2 h3
                go_wp2
                go_ret
                exact SameRPost.fail 9 ⟨f, q⟩ (Uni.stop _ _ _ _ _ (by show St.step ⟨f, q⟩ ((Ty.mk k m s e l).app f) ((Ty.mk k' m' s' e' l').app f) = .stop 9; rw [HXA.out, HXB.out]; exact Hstep.out)) (by decide) rfl (Kp.of_below Hb8.out)
            · have b2 : (sa.toList == sb.toList) = false := by rw [Lib.toList_data, Lib.toList_data, beq_eq_false_iff_ne]; exact h2
              have Hstep : Hid (St.step ⟨f, q⟩ XA XB = .stop 9) := step_clash Hsm.out (by rw [hXa]; exact ha) (by rw [hXb]; exact hb) (by rw [htop]; simp [show ¬ sa.data = sb.data from fun q => h2 (by rw [q])])
              clear ha hb hXa hXb htop h1 h2
              go_wp2
              go_ret
              exact SameRPost.fail 9 ⟨f, q⟩ (Uni.stop _ _ _ _ _ (by show St.step ⟨f, q⟩ ((Ty.mk k m s e l).app f) ((Ty.mk k' m' s' e' l').app f) = .stop 9; rw [HXA.out, HXB.out]; exact Hstep.out)) (by decide) rfl (Kp.of_below Hb8.out)
          · have b1 : (ka != kb) = true := by simpa using h1
            have Hstep : Hid (St.step ⟨f, q⟩ XA XB = .stop 9) := step_clash Hsm.out (by rw [hXa]; exact ha) (by rw [hXb]; exact hb) (by rw [htop]; simp [h1])
            clear ha hb hXa hXb htop h1
            go_wp2
            go_ret
            exact SameRPost.fail 9 ⟨f, q⟩ (Uni.stop _ _ _ _ _ (by show St.step ⟨f, q⟩ ((Ty.mk k m s e l).app f) ((Ty.mk k' m' s' e' l').app f) = .stop 9; rw [HXA.out, HXB.out]; exact Hstep.out)) (by decide) rfl (Kp.of_below Hb8.out)
theorem sameR_any (wb : World) (sp bM bQ : Nat) (V : List Int) : ∀ N, SameRAt wb sp bM bQ V N
  | 0 => fun _ _ _ _ _ _ _ _ _ _ _ _ _ _ _ _ _ _ _ _ _ _ _ _ _ _ _ _ h => absurd h (Nat.not_lt_zero _)
  | N + 1 => fun w n nq M f q k m s e l p cap k' m' s' e' l' p' cap' h1 h2 h3 h4 h5 h6 h7 h8 h9 => sameR_step wb sp bM bQ V N (sameR_any wb sp bM bQ V N) w n nq M f q k m s e l p cap k' m' s' e' l' p' cap' h1 h2 h3 h4 h5 h6 h7 h8 h9
end Go.Proofs.Ytbgpjaniohpfaaa
