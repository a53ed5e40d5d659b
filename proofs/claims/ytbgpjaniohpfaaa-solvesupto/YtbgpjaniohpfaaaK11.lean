/-
  Two types made the same (same): up to their tops.
-/
import Derived.Test.YtbgpjaniohpfaaaK10
import Derived.Deep.RegionWith
import Derived.Deep.CutBlock
namespace Go.Proofs.Ytbgpjaniohpfaaa
open Go.RowKit Go.Deep
variable {μ : Marks}
theorem wpList_lenM {w : World} {ops : Array Oper} {rest : List Oper} {o : Oper} {a : Act} {Q : Exit → Act → World → Prop} (hg : o.guard = none) (m : Operand) (hop : o.op = Op.call { callee := Callee.builtin Builtin.len, args := #[m], argTypes := #[49] })
    (b n : Nat) (F : Int → Option Value) (hm : a.eval m = .map (some b)) (h : MapAt w b n F) (hK : wpList Try.prog ops Q rest (a.put o.dst (.int .i64 n)) w) : wpList Try.prog ops Q (o :: rest) a w := by
  obtain ⟨D, h1, h2, h3⟩ := h
  refine wpList_len_own w hg m 49 hop 3 33 map49 heldR b n D hm h1 ?_
  rw [h2]
  exact hK
/-- What is left where two types were made the same. -/
inductive SamePost (μ : Marks) (wb : World) (sp bM bQ n nq : Nat) (V : List Int) (w : World) (f : Int → Ty) (q : Int → Int) (a b : Ty) (gr : Int) (e' : Ending) (w' : World) : Prop
  | fail (e : Int) (s1 : St) (hu : Uni ⟨f, q⟩ [(a, b)] e s1) (h0 : ¬ e = 0) (he : e' = .returned (.int .i64 e)) (hk : Kp [bM, bQ, sp] w w') (hb : Below wb.heap.size wb w') : SamePost μ wb sp bM bQ n nq V w f q a b gr e' w'
  | ok (s1 : St) (n1 : Nat) (M1 : Int → Option Ty) (g1 : Int) (hu : Uni ⟨f, q⟩ [(a, b)] 0 s1) (he : e' = .returned (.int .i64 0)) (hS : Sq μ wb w' sp bM bQ n1 nq M1 s1.sub s1.eq V) (hB : Bal n1 M1 V) (hn : n ≤ n1 ∧ (n1 = n → s1.sub = f)) (hk : Kp [bM, bQ, sp] w w') (hG : SolBox w' sp bM bQ g1) (hg : gr ≤ g1 ∧ g1 ≤ n1 ∧ (g1 = gr → ∀ x : Ty, (x.app s1.sub).count = (x.app f).count)) : SamePost μ wb sp bM bQ n nq V w f q a b gr e' w'
theorem countL_maps {F G : Ty → Ty} : ∀ l : List Ty, (∀ i (hi : i < l.length), (F (l[i]'hi)).count = (G (l[i]'hi)).count) → Ty.countL (l.map F) = Ty.countL (l.map G)
  | [], _ => rfl
  | a :: l, h => by
    have h0 := h 0 (by simp)
    have h1 := countL_maps l (fun i hi => h (i + 1) (by simpa using hi))
    simp only [List.map_cons, Ty.countL]
    simp only [List.getElem_cons_zero] at h0
    omega
/-- What has one part takes a variable's place: nothing has more parts. -/
theorem count_one {n : Int} {T : Ty} (hT : T.count = 1) (X : Ty) : (X.app (one n T)).count = (X.app Ty.vr).count := by
  have hv : ∀ m, (Ty.vr m).count = 1 := fun m => by unfold Ty.vr Ty.count Ty.countL; rfl
  induction X using Ty.ind with
  | h k m s e l ih =>
    by_cases hk : k = 0
    · rw [Ty.app_var hk, Ty.app_var hk, hv]
      unfold one
      split
      · exact hT
      · exact hv m
    · rw [Ty.app_mk hk, Ty.app_mk hk]
      unfold Ty.count
      rw [countL_maps l ih]
theorem count_bind {f : Int → Ty} (hf : Good f) {n : Int} {T : Ty} (hT : T.count = 1) (x : Ty) : (x.app (bindF f n T)).count = (x.app f).count := by
  rw [app_bindF, count_one hT, hf.app_plain]
theorem tyIn_len {w : World} {k n : Int} {s : ByteArray} {e : Int} {l : List Ty} {cs : List Value} (h : TyIn w cs (.mk k n s e l)) : l.length ≤ maxLen := by
  cases h with
  | mk _ _ _ _ _ _ _ _ _ _ hp hw hc hr => exact hw.2.2.2.2.1
theorem leaf_one {k m : Int} {s : ByteArray} {e : Int} {l : List Ty} {f : Int → Ty} {X : Ty} (h : (k = 0 ∧ l = [] ∧ X = .vr m) ∨ (¬ k = 0 ∧ X = .mk k m s e (l.map (Ty.app f)))) (hl : l = []) : X.count = 1 := by
  rcases h with ⟨_, _, rfl⟩ | ⟨_, rfl⟩
  · unfold Ty.vr Ty.count Ty.countL; rfl
  · rw [hl]; unfold Ty.count; rfl
theorem Box.setCells {w : World} {b : Nat} {c0 c1 c2 c3 c4 : Value} (h : Box w b c0 c1 c2 c3 c4) (d0 d1 d2 d3 d4 : Value) : Box (((((w.setCell ⟨b, 0, none⟩ d0).setCell ⟨b, 1, none⟩ d1).setCell ⟨b, 2, none⟩ d2).setCell ⟨b, 3, none⟩ d3).setCell ⟨b, 4, none⟩ d4) b d0 d1 d2 d3 d4 := by
  unfold Box at *
  simp [World.setCell, Array.getElem?_modify, h]
theorem Box.setKp (w : World) (b : Nat) (d0 d1 d2 d3 d4 : Value) : Kp [b] w (((((w.setCell ⟨b, 0, none⟩ d0).setCell ⟨b, 1, none⟩ d1).setCell ⟨b, 2, none⟩ d2).setCell ⟨b, 3, none⟩ d3).setCell ⟨b, 4, none⟩ d4) :=
  ((((Kp.setCell w ⟨b, 0, none⟩ (by simp) d0).trans (Kp.setCell _ ⟨b, 1, none⟩ (by simp) d1)).trans (Kp.setCell _ ⟨b, 2, none⟩ (by simp) d2)).trans (Kp.setCell _ ⟨b, 3, none⟩ (by simp) d3)).trans (Kp.setCell _ ⟨b, 4, none⟩ (by simp) d4)
theorem step_twice {s : St} {A B : Ty} (hs : A.count ≤ 400 ∧ B.count ≤ 400) (ha : A.kind = 0) (hb : B.kind = 0) (hn : A.num = B.num) : s.step A B = .go s := by
  unfold St.step
  rw [if_neg (by omega), if_pos ⟨ha, hb, hn⟩]
theorem step_left {s : St} {A B : Ty} (hs : A.count ≤ 400 ∧ B.count ≤ 400) (ha : A.kind = 0) (hn : ¬ (B.kind = 0 ∧ A.num = B.num)) : s.step A B = s.stand A.num B := by
  unfold St.step
  rw [if_neg (by omega), if_neg (fun h => hn h.2), if_pos ha]
theorem step_right {s : St} {A B : Ty} (hs : A.count ≤ 400 ∧ B.count ≤ 400) (ha : ¬ A.kind = 0) (hb : B.kind = 0) : s.step A B = s.stand B.num A := by
  unfold St.step
  rw [if_neg (by omega), if_neg (fun h => ha h.1), if_neg ha, if_pos hb]
theorem step_clash {s : St} {A B : Ty} (hs : A.count ≤ 400 ∧ B.count ≤ 400) (ha : ¬ A.kind = 0) (hb : ¬ B.kind = 0) (ht : A.top B = false) : s.step A B = .stop 9 := by
  unfold St.step
  rw [if_neg (by omega), if_neg (fun h => ha h.1), if_neg ha, if_neg hb, if_neg (by simp [ht])]
theorem step_into {s : St} {A B : Ty} (hs : A.count ≤ 400 ∧ B.count ≤ 400) (ha : ¬ A.kind = 0) (hb : ¬ B.kind = 0) (ht : A.top B = true) : s.step A B = .into (A.args.zip B.args) := by
  unfold St.step
  rw [if_neg (by omega), if_neg (fun h => ha h.1), if_neg ha, if_neg hb, if_pos ht]
theorem Bal.room1 {n : Nat} {M : Int → Option Ty} {V : List Int} (h : Bal n M V) {m : Int} (hm : M m = none) (hV : V.contains m = true) : n + 1 < maxLen := by
  have h1 : 1 ≤ free M V := by
    unfold free
    refine List.length_pos_of_mem (a := m) (List.mem_filter.2 ⟨by simpa using hV, by rw [hm]; rfl⟩)
  have := h.sum
  have := h.room
  omega
theorem SamePost.ret {gr : Int} {wb : World} {sp bM bQ n nq : Nat} {V : List Int} {w : World} {f : Int → Ty} {q : Int → Int} {a b : Ty} {r : Ending} {w' : World} (h : SamePost μ wb sp bM bQ n nq V w f q a b gr r w') : ∃ ev : Int, r = .returned (.int .i64 ev) := by
  cases h with
  | fail e _ _ _ he _ _ => exact ⟨e, he⟩
  | ok _ _ _ _ _ he _ _ _ _ _ _ => exact ⟨0, he⟩
theorem SamePost.of_stand {gr : Int} {leaf : Prop} {T : Ty} {wb : World} {sp bM bQ n nq : Nat} {V : List Int} {w w1 : World} {f : Int → Ty} {q : Int → Int} {a b : Ty} {r : Ending} {w' : World} {M : Int → Option Ty} {x : Int} (hst : St.step ⟨f, q⟩ (a.app f) (b.app f) = St.stand ⟨f, q⟩ x T) (h : StPost μ wb sp bM bQ n nq V w1 M x (St.stand ⟨f, q⟩ x T) gr leaf r w') (hk : Kp [bM, bQ, sp] w w1) (hB : Bal n M V) (hx : M x = none) (hV : V.contains x = true) (hf : Good f) (hl : leaf → T.count = 1) (hgn : gr ≤ n) : SamePost μ wb sp bM bQ n nq V w f q a b gr r w' := by
  cases h with
  | stop e h1 h2 h3 h4 =>
    rw [h1] at hst
    exact SamePost.fail e ⟨f, q⟩ (Uni.stop _ _ _ _ _ hst) (St.step_stop_ne hst) h2 (hk.trans h3) h4
  | go s1 M' g' h1 h2 h3 h4 h5 h6 h7 =>
    rw [h1] at hst
    refine SamePost.ok s1 (n + 1) M' g' (Uni.go _ _ _ _ _ _ _ hst (Uni.done s1)) h2 h3 (hB.bind h4 hx (by simpa using hV)).1 ⟨Nat.le_succ _, fun h => by omega⟩ (hk.trans h5) h6 ?_
    rcases h7 with ⟨rfl, h8⟩ | rfl
    · refine ⟨Int.le_refl _, by omega, fun _ y => ?_⟩
      rw [(St.stand_go h1).2.1]
      exact count_bind hf (hl h8) y
    · exact ⟨by omega, by omega, fun h => by omega⟩
/-- Both tops were found, and stored. -/
theorem both_tops {wb w wc w5 w6 : World} {sp bM bQ n nq : Nat} {V : List Int} {M M1 M5 M6 : Int → Option Ty} {f : Int → Ty} {q : Int → Int} {XA XB : Ty} {k m : Int} {s : ByteArray} {e : Int} {l : List Ty} {p : Option Addr} {cap : Nat} {k' m' : Int} {s' : ByteArray} {e' : Int} {l' : List Ty} {p' : Option Addr} {cap' : Nat}
    {k1 m1 : Int} {s1 : ByteArray} {e1 : Int} {l1 : List Ty} {p1 : Option Addr} {cap1 : Nat} {k2 m2 : Int} {s2 : ByteArray} {e2 : Int} {l2 : List Ty} {p2 : Option Addr} {cap2 : Nat}
    (hlt : sp < w.heap.size ∧ bM < w.heap.size ∧ bQ < w.heap.size ∧ sp ≠ bM ∧ sp ≠ bQ ∧ bM ≠ bQ ∧ wb.heap.size ≤ w.heap.size)
    (hS : Sq μ wb wc.drew sp bM bQ n nq M1 f q V) (hd : ∀ x, (M1 x).isSome = (M x).isSome) (hK : Kp [bM] w wc.drew)
    (hA : Box wc.drew w.heap.size (.int .i64 k) (.int .i64 m) (.string s) (.int .i64 e) (.slice p l.length cap)) (hB : Box wc.drew (w.heap.size + 1) (.int .i64 k') (.int .i64 m') (.string s') (.int .i64 e') (.slice p' l'.length cap'))
    (a1 : TyIn wb [.int .i64 k1, .int .i64 m1, .string s1, .int .i64 e1, .slice p1 l1.length cap1] (.mk k1 m1 s1 e1 l1)) (a2 : (Ty.mk k1 m1 s1 e1 l1).okm μ) (a3 : Full M5 (.mk k1 m1 s1 e1 l1) XA) (a4 : k1 = 0 → M5 m1 = none) (a5 : ∀ x, (M5 x).isSome = (M1 x).isSome) (a6 : Sv μ wb w5 sp bM n M5 f) (a7 : Kp [bM] wc.drew w5)
    (b1 : TyIn wb [.int .i64 k2, .int .i64 m2, .string s2, .int .i64 e2, .slice p2 l2.length cap2] (.mk k2 m2 s2 e2 l2)) (b2 : (Ty.mk k2 m2 s2 e2 l2).okm μ) (b3 : Full M6 (.mk k2 m2 s2 e2 l2) XB) (b4 : k2 = 0 → M6 m2 = none) (b5 : ∀ x, (M6 x).isSome = (M5 x).isSome) (b6 : Sv μ wb w6 sp bM n M6 f) (b7 : Kp [bM] w5 w6) {wF : World}
    (hF : wF = (((((((((w6.setCell ⟨w.heap.size, 0, none⟩ (.int .i64 k1)).setCell ⟨w.heap.size, 1, none⟩ (.int .i64 m1)).setCell ⟨w.heap.size, 2, none⟩ (.string s1)).setCell ⟨w.heap.size, 3, none⟩ (.int .i64 e1)).setCell ⟨w.heap.size, 4, none⟩ (.slice p1 l1.length cap1)).setCell ⟨w.heap.size + 1, 0, none⟩ (.int .i64 k2)).setCell ⟨w.heap.size + 1, 1, none⟩ (.int .i64 m2)).setCell ⟨w.heap.size + 1, 2, none⟩ (.string s2)).setCell ⟨w.heap.size + 1, 3, none⟩ (.int .i64 e2)).setCell ⟨w.heap.size + 1, 4, none⟩ (.slice p2 l2.length cap2)) :
    ∃ (u v : Ty) (M2 : Int → Option Ty), TyBox μ wb wF w.heap.size u ∧ TyBox μ wb wF (w.heap.size + 1) v ∧ Full M2 u XA ∧ Full M2 v XB ∧ (u.kind = 0 → M2 u.num = none) ∧ (v.kind = 0 → M2 v.num = none) ∧ Sq μ wb wF sp bM bQ n nq M2 f q V ∧ (∀ x, (M2 x).isSome = (M x).isSome) ∧ Kp [bM] w wF := by
  have hAx := (hA.kp a7 (by simp <;> omega)).kp b7 (by simp <;> omega)
  have hBx := (hB.kp a7 (by simp <;> omega)).kp b7 (by simp <;> omega)
  have hA1 := hAx.setCells (.int .i64 k1) (.int .i64 m1) (.string s1) (.int .i64 e1) (.slice p1 l1.length cap1)
  have kA := Box.setKp w6 w.heap.size (.int .i64 k1) (.int .i64 m1) (.string s1) (.int .i64 e1) (.slice p1 l1.length cap1)
  have hB1 := (hBx.kp kA (by simp <;> omega)).setCells (.int .i64 k2) (.int .i64 m2) (.string s2) (.int .i64 e2) (.slice p2 l2.length cap2)
  have kB := Box.setKp (((((w6.setCell ⟨w.heap.size, 0, none⟩ (.int .i64 k1)).setCell ⟨w.heap.size, 1, none⟩ (.int .i64 m1)).setCell ⟨w.heap.size, 2, none⟩ (.string s1)).setCell ⟨w.heap.size, 3, none⟩ (.int .i64 e1)).setCell ⟨w.heap.size, 4, none⟩ (.slice p1 l1.length cap1)) (w.heap.size + 1) (.int .i64 k2) (.int .i64 m2) (.string s2) (.int .i64 e2) (.slice p2 l2.length cap2)
  have hA2 := hA1.kp kB (by simp <;> omega)
  subst hF
  have hs6 : Sq μ wb w6 sp bM bQ n nq M6 f q V := (hS.after a6 a7).after b6 b7
  have hk6 : Kp [w.heap.size, w.heap.size + 1] w6 _ := (kA.mono (by simp)).trans (kB.mono (by simp))
  refine ⟨_, _, M6, TyBox.mk k1 m1 s1 e1 l1 p1 cap1 hA2 a1 a2, TyBox.mk k2 m2 s2 e2 l2 p2 cap2 hB1 b1 b2, ?_, b3, fun h => ?_, b4, hs6.kp hk6 ⟨by simp <;> omega, by simp <;> omega, by simp <;> omega, by simp <;> omega⟩, fun x => (b5 x).trans ((a5 x).trans (hd x)), (hK.trans (a7.trans b7)).then hk6 (by simp)⟩
  · rw [a6.agr.eq a3]
    exact b6.agr.full _
  · show M6 m1 = none
    have := b5 m1
    rw [a4 h] at this
    simpa using this
/-- What is asked of same, up to a measure. -/
def SameAt (μ : Marks) (wb : World) (sp bM bQ nq : Nat) (V : List Int) (N : Nat) : Prop :=
  ∀ (w : World) (n : Nat) (M : Int → Option Ty) (f : Int → Ty) (q : Int → Int) (k m : Int) (s : ByteArray) (e : Int) (l : List Ty) (p : Option Addr) (cap : Nat) (k' m' : Int) (s' : ByteArray) (e' : Int) (l' : List Ty) (p' : Option Addr) (cap' : Nat) (asked : Int) (gr : Int) (_hG : SolBox w sp bM bQ gr) (_hg : 0 ≤ gr ∧ gr ≤ n)
    (_hS : Sq μ wb w sp bM bQ n nq M f q V) (_hB : Bal n M V) (_hT : TyIn wb [.int .i64 k, .int .i64 m, .string s, .int .i64 e, .slice p l.length cap] (.mk k m s e l)) (_hsh : (Ty.mk k m s e l).okm μ) (_hV : ∀ y, ((Ty.mk k m s e l).app f).hasV y = true → V.contains y = true)
    (_hT' : TyIn wb [.int .i64 k', .int .i64 m', .string s', .int .i64 e', .slice p' l'.length cap'] (.mk k' m' s' e' l')) (_hsh' : (Ty.mk k' m' s' e' l').okm μ) (_hV' : ∀ y, ((Ty.mk k' m' s' e' l').app f).hasV y = true → V.contains y = true)
    (_hask : asked = gr → ((Ty.mk k m s e l).app f).count ≤ 400 ∧ ((Ty.mk k' m' s' e' l').app f).count ≤ 400), (V.length - n) * 402 + Nat.min ((Ty.mk k m s e l).app f).count 401 < N →
    Calls Try.prog 30 #[.pointer (some ⟨sp, 0, none⟩), .agg #[.int .i64 k, .int .i64 m, .string s, .int .i64 e, .slice p l.length cap], .agg #[.int .i64 k', .int .i64 m', .string s', .int .i64 e', .slice p' l'.length cap'], .int .i64 asked] w fun r w' =>
      SamePost μ wb sp bM bQ n nq V w f q (.mk k m s e l) (.mk k' m' s' e' l') gr r w'
/-- All pairs of two lists of arguments, each replaced. -/
def pairsOf (f : Int → Ty) (la lb : List Ty) : List (Ty × Ty) := (la.map (Ty.app f)).zip (lb.map (Ty.app f))
theorem pairs_len (f : Int → Ty) {la lb : List Ty} (h : la.length = lb.length) : (pairsOf f la lb).length = la.length := by simp [pairsOf, h]
theorem pairs_get (f : Int → Ty) (la lb : List Ty) (i : Nat) (hi : i < la.length) (hi' : i < lb.length) (hp : i < (pairsOf f la lb).length) : (pairsOf f la lb)[i]'hp = ((la[i]'hi).app f, (lb[i]'hi').app f) := by simp [pairsOf]
theorem take_pairs (f : Int → Ty) (la lb : List Ty) (i : Nat) (hi : i < la.length) (hi' : i < lb.length) : (pairsOf f la lb).take (i + 1) = (pairsOf f la lb).take i ++ [((la[i]'hi).app f, (lb[i]'hi').app f)] := by
  have hp : i < (pairsOf f la lb).length := by simp [pairsOf]; omega
  rw [List.take_succ_eq_append_getElem hp, pairs_get f la lb i hi hi' hp]
theorem pairs_over {V : List Int} {f : Int → Ty} (hg : Good f) {la lb : List Ty} (ha : ∀ x ∈ la, Over V f x) (hb : ∀ x ∈ lb, Over V f x) (i : Nat) : ∀ p ∈ (pairsOf f la lb).take i, Over V f p.1 ∧ Over V f p.2 := by
  rintro ⟨p1, p2⟩ hp
  have hp := List.mem_of_mem_take hp
  obtain ⟨h1, h2⟩ := List.of_mem_zip hp
  obtain ⟨x, hx, rfl⟩ := List.mem_map.1 h1
  obtain ⟨y, hy, rfl⟩ := List.mem_map.1 h2
  exact ⟨fun m hm => ha x hx m (by rw [hg.app] at hm; exact hm), fun m hm => hb y hy m (by rw [hg.app] at hm; exact hm)⟩
/-- One pair more. -/
theorem Uni.more {f : Int → Ty} {q : Int → Int} {s1 s2 : St} {la lb : List Ty} {i : Nat} {e : Int} (hg : Good f) (h : Uni ⟨f, q⟩ ((pairsOf f la lb).take i) 0 s1) (hi : i < la.length) (hi' : i < lb.length) (k : Uni s1 [(la[i]'hi, lb[i]'hi')] e s2) : Uni ⟨f, q⟩ ((pairsOf f la lb).take (i + 1)) e s2 := by
  rw [take_pairs f la lb i hi hi']
  have hx := (h.good hg).2
  exact h.then rfl (k.like (hx _).symm (hx _).symm)
theorem Uni.whole {f : Int → Ty} {q : Int → Int} {s2 : St} {la lb : List Ty} {i : Nat} {e : Int} (h : Uni ⟨f, q⟩ ((pairsOf f la lb).take i) e s2) (h0 : ¬ e = 0) : Uni ⟨f, q⟩ (pairsOf f la lb) e s2 := by
  have := h.fail h0 ((pairsOf f la lb).drop i)
  rwa [List.take_append_drop] at this
set_option maxHeartbeats 40000000 in
set_option maxRecDepth 100000 in
theorem same_step (wb : World) (sp bM bQ nq : Nat) (V : List Int) (N : Nat) (hI : SameAt μ wb sp bM bQ nq V N) (w : World) (n : Nat) (M : Int → Option Ty) (f : Int → Ty) (q : Int → Int) (k m : Int) (s : ByteArray) (e : Int) (l : List Ty) (p : Option Addr) (cap : Nat) (k' m' : Int) (s' : ByteArray) (e' : Int) (l' : List Ty) (p' : Option Addr) (cap' : Nat) (asked : Int) (gr : Int) (hG : SolBox w sp bM bQ gr) (hg : 0 ≤ gr ∧ gr ≤ n)
    (hS : Sq μ wb w sp bM bQ n nq M f q V) (hB : Bal n M V) (hT : TyIn wb [.int .i64 k, .int .i64 m, .string s, .int .i64 e, .slice p l.length cap] (.mk k m s e l)) (hsh : (Ty.mk k m s e l).okm μ) (hV : ∀ y, ((Ty.mk k m s e l).app f).hasV y = true → V.contains y = true)
    (hT' : TyIn wb [.int .i64 k', .int .i64 m', .string s', .int .i64 e', .slice p' l'.length cap'] (.mk k' m' s' e' l')) (hsh' : (Ty.mk k' m' s' e' l').okm μ) (hV' : ∀ y, ((Ty.mk k' m' s' e' l').app f).hasV y = true → V.contains y = true)
    (hask : asked = gr → ((Ty.mk k m s e l).app f).count ≤ 400 ∧ ((Ty.mk k' m' s' e' l').app f).count ≤ 400) (hN : (V.length - n) * 402 + Nat.min ((Ty.mk k m s e l).app f).count 401 < N + 1) :
    Calls Try.prog 30 #[.pointer (some ⟨sp, 0, none⟩), .agg #[.int .i64 k, .int .i64 m, .string s, .int .i64 e, .slice p l.length cap], .agg #[.int .i64 k', .int .i64 m', .string s', .int .i64 e', .slice p' l'.length cap'], .int .i64 asked] w fun r w' =>
      SamePost μ wb sp bM bQ n nq V w f q (.mk k m s e l) (.mk k' m' s' e' l') gr r w' := by
  have hlt := hS.lt
  have hk2 : Kp [] w ((w.alloc (Obj.cells #[Value.int IntKind.i64 k, Value.int IntKind.i64 m, Value.string s, Value.int IntKind.i64 e, Value.slice p l.length cap] 33)).alloc (Obj.cells #[Value.int IntKind.i64 k', Value.int IntKind.i64 m', Value.string s', Value.int IntKind.i64 e', Value.slice p' l'.length cap'] 33)) := (Kp.alloc _ _ _).trans (Kp.alloc _ _ _)
  have hA2 := (Box.new w (.int .i64 k) (.int .i64 m) (.string s) (.int .i64 e) (.slice p l.length cap)).kp (Kp.alloc [] _ (Obj.cells #[Value.int IntKind.i64 k', Value.int IntKind.i64 m', Value.string s', Value.int IntKind.i64 e', Value.slice p' l'.length cap'] 33)) (by simp)
  have hB2 := Box.new (w.alloc (Obj.cells #[Value.int IntKind.i64 k, Value.int IntKind.i64 m, Value.string s, Value.int IntKind.i64 e, Value.slice p l.length cap] 33)) (.int .i64 k') (.int .i64 m') (.string s') (.int .i64 e') (.slice p' l'.length cap')
  rw [heap_size_alloc] at hB2
  have hz2 : w.heap.size + 1 + 1 ≤ ((w.alloc (Obj.cells #[Value.int IntKind.i64 k, Value.int IntKind.i64 m, Value.string s, Value.int IntKind.i64 e, Value.slice p l.length cap] 33)).alloc (Obj.cells #[Value.int IntKind.i64 k', Value.int IntKind.i64 m', Value.string s', Value.int IntKind.i64 e', Value.slice p' l'.length cap'] 33)).heap.size := by simp
  have hS2 := hS.kp hk2 (by simp)
  have HT : Hid (TyIn wb [.int .i64 k, .int .i64 m, .string s, .int .i64 e, .slice p l.length cap] (.mk k m s e l)) := hT
  have Hsh : Hid ((Ty.mk k m s e l).okm μ) := hsh
  have HV : Hid (∀ y, ((Ty.mk k m s e l).app f).hasV y = true → V.contains y = true) := hV
  have HT' : Hid (TyIn wb [.int .i64 k', .int .i64 m', .string s', .int .i64 e', .slice p' l'.length cap'] (.mk k' m' s' e' l')) := hT'
  have Hsh' : Hid ((Ty.mk k' m' s' e' l').okm μ) := hsh'
  have HV' : Hid (∀ y, ((Ty.mk k' m' s' e' l').app f).hasV y = true → V.contains y = true) := hV'
  have HG0 : Hid (SolBox w sp bM bQ gr) := hG
  have HG2 : Hid (SolBox _ sp bM bQ gr) := hG.kp hk2 (by simp)
  have hgb : 0 ≤ gr ∧ gr < 9223372036854775807 := by have h1 := hB.sum; have h2 := hB.room; unfold maxLen at h2; omega
  have Hgn : Hid (gr ≤ n) := hg.2
  have Hask : Hid (asked = gr → ((Ty.mk k m s e l).app f).count ≤ 400 ∧ ((Ty.mk k' m' s' e' l').app f).count ≤ 400) := hask
  have HB : Hid (Bal n M V) := hB
  have HI : Hid (SameAt μ wb sp bM bQ nq V N) := hI
  have HN : Hid ((V.length - n) * 402 + Nat.min ((Ty.mk k m s e l).app f).count 401 < N + 1) := hN
  generalize hXA : ((Ty.mk k m s e l).app f) = XA at *
  generalize hXB : ((Ty.mk k' m' s' e' l').app f) = XB at *
  have HXA : Hid ((Ty.mk k m s e l).app f = XA) := hXA
  have HXB : Hid ((Ty.mk k' m' s' e' l').app f = XB) := hXB
  clear hI hN hXA hXB hS hT hsh hV hT' hsh' hV' hask hB hG hg
  go_enter Try.func30, Try.ntmps30
  go_upto_region 1 with fail
  generalize (w.alloc (Obj.cells #[Value.int IntKind.i64 k, Value.int IntKind.i64 m, Value.string s, Value.int IntKind.i64 e, Value.slice p l.length cap] 33)).alloc (Obj.cells #[Value.int IntKind.i64 k', Value.int IntKind.i64 m', Value.string s', Value.int IntKind.i64 e', Value.slice p' l'.length cap'] 33) = w2 at *
  have HK2 : Hid (Kp [] w w2) := hk2
  have HA2 : Hid _ := hA2
  have HB2 : Hid _ := hB2
  have HS2 : Hid _ := hS2
  clear hk2 hA2 hB2 hS2
  go_cut [27] from 11 to 27 (fun a wx => ∃ (t : Bool), a = .bool t ∧ Hid ((t = true ↔ (400 < XA.count ∨ 400 < XB.count)) ∧ ∃ M1, Sq μ wb wx sp bM bQ n nq M1 f q V ∧ (∀ x, (M1 x).isSome = (M x).isSome) ∧ Box wx w.heap.size (.int .i64 k) (.int .i64 m) (.string s) (.int .i64 e) (.slice p l.length cap) ∧ Box wx (w.heap.size + 1) (.int .i64 k') (.int .i64 m') (.string s') (.int .i64 e') (.slice p' l'.length cap') ∧ Kp [bM] w wx))
  case first =>
    obtain ⟨_, _, hcM⟩ := SolBox.cells HG2.out
    obtain ⟨x0, x1, x2, x3, x4⟩ := Box.cells HA2.out
    by_cases ha : asked = gr
    · have ha' : (asked != gr) = false := by simp [ha]
      have Ha : Hid _ := Hask.out ha
      clear ha
      go_wp2_with fail
      go_meet
      exact ⟨false, rfl, ⟨fun h => by (cases h), fun h => by have := Ha.out; omega⟩, M, HS2.out, fun _ => rfl, HA2.out, HB2.out, Kp.mono HK2.out (by simp)⟩
    · have ha' : (asked != gr) = true := by simp [ha]
      clear ha
      go_wp2_with fail
      refine (fits_any wb sp bM n f w2 M k m s e l p cap (Sq.sv HS2.out) HT.out Hsh.out).mono ?_
      rintro e10 w3 ⟨rfl, hp⟩
      cases hp with
      | mk M3 hS3 hd3 hk3 =>
      have HS3 : Hid _ := Sq.after HS2.out hS3 hk3
      have HD3 : Hid (∀ x, (M3 x).isSome = (M x).isSome) := hd3
      have HK3 : Hid (Kp [bM] w w3) := Kp.trans (Kp.mono HK2.out (by simp)) hk3
      have HA3 : Hid _ := Box.kp HA2.out hk3 (by simp <;> omega)
      have HB3 : Hid _ := Box.kp HB2.out hk3 (by simp <;> omega)
      clear hS3 hd3 hk3 x0 x1 x2 x3 x4 hcM
      rw [HXA.out]
      by_cases hca : XA.count ≤ 400
      · have hda : decide (XA.count ≤ 400) = true := by simpa using hca
        rw [hda]
        obtain ⟨x0, x1, x2, x3, x4⟩ := Box.cells HB3.out
        clear hda
        go_wp2_with fail
        refine (fits_any wb sp bM n f w3 M3 k' m' s' e' l' p' cap' (Sq.sv HS3.out) HT'.out Hsh'.out).mono ?_
        rintro e10 w4 ⟨rfl, hp⟩
        cases hp with
        | mk M4 hS4 hd4 hk4 =>
        have HS4 : Hid _ := Sq.after HS3.out hS4 hk4
        have HD4 : Hid (∀ x, (M4 x).isSome = (M x).isSome) := fun x => (hd4 x).trans (HD3.out x)
        have HK4 : Hid (Kp [bM] w w4) := HK3.out.trans hk4
        have HA4 : Hid _ := Box.kp HA3.out hk4 (by simp <;> omega)
        have HB4 : Hid _ := Box.kp HB3.out hk4 (by simp <;> omega)
        clear hS4 hd4 hk4 x0 x1 x2 x3 x4
        rw [HXB.out]
        by_cases hcb : XB.count ≤ 400
        · have hdb : decide (XB.count ≤ 400) = true := by simpa using hcb
          rw [hdb]
          clear hdb
          go_wp2
          go_meet
          exact ⟨false, rfl, ⟨fun h => by (cases h), fun h => by omega⟩, M4, HS4.out, HD4.out, HA4.out, HB4.out, HK4.out⟩
        · have hdb : decide (XB.count ≤ 400) = false := by simpa using hcb
          rw [hdb]
          clear hdb
          go_wp2
          go_meet
          exact ⟨true, rfl, ⟨fun h => by omega, fun h => rfl⟩, M4, HS4.out, HD4.out, HA4.out, HB4.out, HK4.out⟩
      · have hda : decide (XA.count ≤ 400) = false := by simpa using hca
        rw [hda]
        clear hda
        go_wp2
        go_meet
        exact ⟨true, rfl, ⟨fun h => by omega, fun h => rfl⟩, M3, HS3.out, HD3.out, HA3.out, HB3.out, HK3.out⟩
  case rest =>
    obtain ⟨t, rfl, HC⟩ := hcut
    obtain ⟨ht, M1, r1, r2, r3, r4, r5⟩ := HC.out
    have HG : Hid (SolBox wc sp bM bQ gr) := HG0.out.kp r5 (by simp <;> omega)
    clear HC HK2 HA2 HB2 HS2 HG2
    have R1 : Hid (Sq μ wb wc sp bM bQ n nq M1 f q V) := r1
    have R2 : Hid (∀ x, (M1 x).isSome = (M x).isSome) := r2
    have R3 : Hid (Box wc w.heap.size (.int .i64 k) (.int .i64 m) (.string s) (.int .i64 e) (.slice p l.length cap)) := r3
    have R4 : Hid (Box wc (w.heap.size + 1) (.int .i64 k') (.int .i64 m') (.string s') (.int .i64 e') (.slice p' l'.length cap')) := r4
    have R5 : Hid (Kp [bM] w wc) := r5
    have Ht : Hid (t = true ↔ (400 < XA.count ∨ 400 < XB.count)) := ht
    clear ht r1 r2 r3 r4 r5
    cases t with
    | true =>
      have hbig := Ht.out.1 rfl
      have Hbig : Hid _ := hbig
      clear Ht hbig
      go_wp2
      go_ret
      refine SamePost.fail 12 ⟨f, q⟩ (Uni.stop _ _ _ _ _ ?_) (by decide) rfl (R5.out.mono (by simp)) R1.out.base
      show St.step ⟨f, q⟩ ((Ty.mk k m s e l).app f) ((Ty.mk k' m' s' e' l').app f) = .stop 12
      rw [HXA.out, HXB.out]
      unfold St.step
      rw [if_pos Hbig.out]
    | false =>
      have hsm : XA.count ≤ 400 ∧ XB.count ≤ 400 := by
        have h1 : ¬ (400 < XA.count ∨ 400 < XB.count) := fun h => by have := Ht.out.2 h; cases this
        omega
      have Hsm : Hid (XA.count ≤ 400 ∧ XB.count ≤ 400) := hsm
      clear Ht hsm
      obtain ⟨_, _, hcM⟩ := SolBox.cells HG.out
      go_upto_region 4 with fail
      clear hcM
      go_cut [] from 32 to 37 (fun wx => Hid (∃ (u v : Ty) (M2 : Int → Option Ty), TyBox μ wb wx w.heap.size u ∧ TyBox μ wb wx (w.heap.size + 1) v ∧ Full M2 u XA ∧ Full M2 v XB ∧ (u.kind = 0 → M2 u.num = none) ∧ (v.kind = 0 → M2 v.num = none) ∧ Sq μ wb wx sp bM bQ n nq M2 f q V ∧ (∀ x, (M2 x).isSome = (M x).isSome) ∧ Kp [bM] w wx))
      case first =>
        obtain ⟨x0, x1, x2, x3, x4⟩ := R3.out.cells
        obtain ⟨y0, y1, y2, y3, y4⟩ := R4.out.cells
        have HA : Hid (Box wc.drew w.heap.size (.int .i64 k) (.int .i64 m) (.string s) (.int .i64 e) (.slice p l.length cap)) := R3.out.kp (X := []) (Kp.refl _ _).drew (by simp)
        have HBB : Hid (Box wc.drew (w.heap.size + 1) (.int .i64 k') (.int .i64 m') (.string s') (.int .i64 e') (.slice p' l'.length cap')) := R4.out.kp (X := []) (Kp.refl _ _).drew (by simp)
        have HneA : Hid (w.heap.size ∉ [bM]) := by unfold Hid; simp <;> omega
        have HneB : Hid (w.heap.size + 1 ∉ [bM]) := by unfold Hid; simp <;> omega
        have hSv := R1.out.drew.sv
        have hTa := HT.out
        have hTb := HT'.out
        have hsa := Hsh.out
        have hsb := Hsh'.out
        go_region_with (go_at_call 39; refine Calls.mono (top_any wb _ sp bM n _ f _ _ _ _ _ _ _ (by assumption) (by assumption) (by assumption)) ?_; first | (have _hh := HFirst; rintro e2 w6 ⟨k2, m2, s2, e2, l2, p2, cap2, M6, rfl, b1, b2, b3, b4, b5, b6, b7⟩; obtain ⟨u0, u1, u2, u3, u4⟩ := (Box.kp (Box.kp HA.out A7.out HneA.out) b7 HneA.out).cells; obtain ⟨v0, v1, v2, v3, v4⟩ := (Box.kp (Box.kp HBB.out A7.out HneB.out) b7 HneB.out).cells; have fa := (Box.kp (Box.kp HA.out A7.out HneA.out) b7 HneA.out).frozen; have fb := (Box.kp (Box.kp HBB.out A7.out HneB.out) b7 HneB.out).frozen; have fa0 := fa 0; have fa1 := fa 1; have fa2 := fa 2; have fa3 := fa 3; have fa4 := fa 4; have fb0 := fb 0; have fb1 := fb 1; have fb2 := fb 2; have fb3 := fb 3; have fb4 := fb 4; have B1 : Hid _ := b1; have B2 : Hid _ := b2; have B3 : Hid _ := b3; have B4 : Hid _ := b4; have B5 : Hid _ := b5; have B6 : Hid _ := b6; have B7 : Hid _ := b7; clear fa fb b1 b2 b3 b4 b5 b6 b7 _hh) | (rintro e1 w5 ⟨k1, m1, s1, e1, l1, p1, cap1, M5, rfl, a1, a2, a3, a4, a5, a6, a7⟩; have HFirst : Hid True := trivial; clear hSv; have hSv := a6; obtain ⟨z0, z1, z2, z3, z4⟩ := (Box.kp HBB.out a7 HneB.out).cells; have A1 : Hid _ := a1; have A2 : Hid _ := a2; have A3 : Hid _ := a3; have A4 : Hid _ := a4; have A5 : Hid _ := a5; have A7 : Hid _ := a7; clear a1 a2 a3 a4 a5 a6 a7))
        all_goals go_wp2_with fail
        all_goals go_meet
        all_goals have A3' := A3.out
        all_goals have B3' := B3.out
        all_goals rw [HXA.out] at A3'
        all_goals rw [HXB.out] at B3'
        all_goals exact both_tops hlt R1.out.drew R2.out R5.out.drew HA.out HBB.out A1.out A2.out A3' A4.out A5.out hSv A7.out B1.out B2.out B3' B4.out B5.out B6.out B7.out rfl
      case rest =>
        clear R1 R2 R3 R4 R5 M1
        obtain ⟨u, v, M2, c1, c2, c3, c4, c5, c6, c7, c8, c9⟩ := hcut.out
        clear hcut
        cases c1 with
        | mk ka ma sa ea la pa capa hA hAt hAs =>
        cases c2 with
        | mk kb mb sb eb lb pb capb hB hBt hBs =>
        have PA : Hid ((ka = 0 ∧ la = [] ∧ XA = .vr ma) ∨ (¬ ka = 0 ∧ XA = .mk ka ma sa ea (la.map (Ty.app f)))) := Full.top_parts c7.sv.agr c3 c5 hAs
        have PB : Hid ((kb = 0 ∧ lb = [] ∧ XB = .vr mb) ∨ (¬ kb = 0 ∧ XB = .mk kb mb sb eb (lb.map (Ty.app f)))) := Full.top_parts c7.sv.agr c4 c6 hBs
        have HAt : Hid (TyIn wb [.int .i64 ka, .int .i64 ma, .string sa, .int .i64 ea, .slice pa la.length capa] (.mk ka ma sa ea la)) := hAt
        have HBt : Hid (TyIn wb [.int .i64 kb, .int .i64 mb, .string sb, .int .i64 eb, .slice pb lb.length capb] (.mk kb mb sb eb lb)) := hBt
        have HAs : Hid ((Ty.mk ka ma sa ea la).okm μ) := hAs
        have HBs : Hid ((Ty.mk kb mb sb eb lb).okm μ) := hBs
        have HA : Hid (Box wc w.heap.size (.int .i64 ka) (.int .i64 ma) (.string sa) (.int .i64 ea) (.slice pa la.length capa)) := hA
        have HBx : Hid (Box wc (w.heap.size + 1) (.int .i64 kb) (.int .i64 mb) (.string sb) (.int .i64 eb) (.slice pb lb.length capb)) := hB
        have EA : Hid ((Ty.mk ka ma sa ea la).app f = XA) := (c7.sv.agr.eq c3).symm
        have EB : Hid ((Ty.mk kb mb sb eb lb).app f = XB) := (c7.sv.agr.eq c4).symm
        have FA : Hid (ka = 0 → M2 ma = none) := c5
        have FB : Hid (kb = 0 → M2 mb = none) := c6
        have C7 : Hid (Sq μ wb wc sp bM bQ n nq M2 f q V) := c7
        have C8 : Hid (∀ x, (M2 x).isSome = (M x).isSome) := c8
        have C9 : Hid (Kp [bM] w wc) := c9
        have CB : Hid (Bal n M2 V) := HB.out.same c8
        have HGc : Hid (SolBox wc sp bM bQ gr) := HG0.out.kp c9 (by simp <;> omega)
        have HGo : Hid (Good f) := c7.sv.agr.good
        obtain ⟨x0, x1, x2, x3, x4⟩ := hA.cells
        obtain ⟨y0, y1, y2, y3, y4⟩ := hB.cells
        clear hAt hBt hAs hBs hA hB c3 c4 c5 c6 c7 c8 c9
        by_cases ha : ka = 0
        · have ha' : (ka == 0) = true := by simpa using ha
          have hXa : XA = .vr ma := by
            rcases PA.out with ⟨_, _, h⟩ | ⟨h, _⟩
            · exact h
            · exact absurd ha h
          have hMa := FA.out ha
          by_cases hab : kb = 0 ∧ ma = mb
          · obtain ⟨hb, hm⟩ := hab
            have hb' : (kb == 0) = true := by simpa using hb
            have hm' : (ma == mb) = true := by simpa using hm
            have hXb : XB = .vr mb := by
              rcases PB.out with ⟨_, _, h⟩ | ⟨h, _⟩
              · exact h
              · exact absurd hb h
            have Hstep : Hid (St.step ⟨f, q⟩ XA XB = .go ⟨f, q⟩) := step_twice Hsm.out (by rw [hXa]; rfl) (by rw [hXb]; rfl) (by rw [hXa, hXb]; exact hm)
            clear hXa hXb ha hb hm hMa
            go_wp2
            go_ret
            exact SamePost.ok ⟨f, q⟩ n M2 gr (Uni.go _ _ _ _ _ _ _ (by show St.step ⟨f, q⟩ ((Ty.mk k m s e l).app f) ((Ty.mk k' m' s' e' l').app f) = .go ⟨f, q⟩; rw [HXA.out, HXB.out]; exact Hstep.out) (Uni.done _)) rfl C7.out CB.out ⟨Nat.le_refl _, fun _ => rfl⟩ (C9.out.mono (by simp)) HGc.out ⟨Int.le_refl _, Hgn.out, fun _ _ => rfl⟩
          · have hstep : St.step ⟨f, q⟩ XA XB = St.stand ⟨f, q⟩ ma XB := by
              have := step_left (s := ⟨f, q⟩) Hsm.out (A := XA) (B := XB) (by rw [hXa]; rfl) (by
                rintro ⟨h1, h2⟩
                rcases PB.out with ⟨h3, _, h4⟩ | ⟨h3, h4⟩
                · rw [hXa, h4] at h2
                  exact hab ⟨h3, h2⟩
                · rw [h4] at h1
                  exact h3 h1)
              rw [this, hXa]
              rfl
            have hVa : V.contains ma = true := HV.out ma (by rw [hXa, Ty.hasV_vr]; simp)
            have Hstep : Hid (St.step ⟨f, q⟩ XA XB = St.stand ⟨f, q⟩ ma XB) := hstep
            have HVa : Hid (V.contains ma = true) := hVa
            have HMa : Hid (M2 ma = none) := hMa
            have hcall := stand_any wb sp bM bQ n nq V wc M2 f q ma kb mb sb eb lb pb capb C7.out (CB.out.room1 hMa hVa) (shaped_wf HAt.out).2.1 hMa HBt.out HBs.out (by rw [EB.out]; exact HV'.out) gr HGc.out hgb (tyIn_len HBt.out)
            rw [EB.out] at hcall
            have Hcall : Hid _ := hcall
            have htst : ((kb == 0) && (ma == mb)) = false := by
              rw [Bool.and_eq_false_iff]
              by_cases hb : kb = 0
              · exact .inr (by simpa using fun h => hab ⟨hb, h⟩)
              · exact .inl (by simpa using hb)
            clear hXa ha hab hstep hVa hcall hMa
            by_cases hb : kb = 0
            · have hb' : (kb == 0) = true := by simpa using hb
              have hm' : (ma == mb) = false := by rw [hb'] at htst; simpa using htst
              clear hb htst
              go_wp2_with fail
              refine Calls.mono Hcall.out ?_
              rintro e10 w6 hp
              have hp2 := SamePost.of_stand (a := .mk k m s e l) (b := .mk k' m' s' e' l') (by rw [HXA.out, HXB.out]; exact Hstep.out) hp (C9.out.mono (by simp)) CB.out HMa.out HVa.out HGo.out (leaf_one PB.out) Hgn.out
              have Hp2 : Hid _ := hp2
              cases hp with
              | stop e7 h1 h2 h3 h4 =>
                subst h2
                clear hp2 h1 h3 h4
                go_wp2
                go_ret
                exact Hp2.out
              | go s7 M7 g7 h1 h2 h3 h4 h5 h6 h7 =>
                subst h2
                clear hp2 h1 h3 h4 h5 h6 h7
                go_wp2
                go_ret
                exact Hp2.out
            · have hb' : (kb == 0) = false := by simpa using hb
              clear hb htst
              go_wp2_with fail
              refine Calls.mono Hcall.out ?_
              rintro e10 w6 hp
              have hp2 := SamePost.of_stand (a := .mk k m s e l) (b := .mk k' m' s' e' l') (by rw [HXA.out, HXB.out]; exact Hstep.out) hp (C9.out.mono (by simp)) CB.out HMa.out HVa.out HGo.out (leaf_one PB.out) Hgn.out
              have Hp2 : Hid _ := hp2
              cases hp with
              | stop e7 h1 h2 h3 h4 =>
                subst h2
                clear hp2 h1 h3 h4
                go_wp2
                go_ret
                exact Hp2.out
              | go s7 M7 g7 h1 h2 h3 h4 h5 h6 h7 =>
                subst h2
                clear hp2 h1 h3 h4 h5 h6 h7
                go_wp2
                go_ret
                exact Hp2.out
        · have ha' : (ka == 0) = false := by simpa using ha
          have hXa : XA = .mk ka ma sa ea (la.map (Ty.app f)) := by
            rcases PA.out with ⟨h, _⟩ | ⟨_, h⟩
            · exact absurd h ha
            · exact h
          by_cases hb : kb = 0
          · have hb' : (kb == 0) = true := by simpa using hb
            have hXb : XB = .vr mb := by
              rcases PB.out with ⟨_, _, h⟩ | ⟨h, _⟩
              · exact h
              · exact absurd hb h
            have hMb := FB.out hb
            have hstep : St.step ⟨f, q⟩ XA XB = St.stand ⟨f, q⟩ mb XA := by
              rw [step_right (s := ⟨f, q⟩) Hsm.out (A := XA) (B := XB) (by rw [hXa]; exact ha) (by rw [hXb]; rfl), hXb]
              rfl
            have hVb : V.contains mb = true := HV'.out mb (by rw [hXb, Ty.hasV_vr]; simp)
            have Hstep : Hid (St.step ⟨f, q⟩ XA XB = St.stand ⟨f, q⟩ mb XA) := hstep
            have HVb : Hid (V.contains mb = true) := hVb
            have HMb : Hid (M2 mb = none) := hMb
            have hcall := stand_any wb sp bM bQ n nq V wc M2 f q mb ka ma sa ea la pa capa C7.out (CB.out.room1 hMb hVb) (shaped_wf HBt.out).2.1 hMb HAt.out HAs.out (by rw [EA.out]; exact HV.out) gr HGc.out hgb (tyIn_len HAt.out)
            rw [EA.out] at hcall
            have Hcall : Hid _ := hcall
            clear hXa hXb ha hb hstep hVb hcall hMb
            go_wp2_with fail
            refine Calls.mono Hcall.out ?_
            rintro e10 w6 hp
            have hp2 := SamePost.of_stand (a := .mk k m s e l) (b := .mk k' m' s' e' l') (by rw [HXA.out, HXB.out]; exact Hstep.out) hp (C9.out.mono (by simp)) CB.out HMb.out HVb.out HGo.out (leaf_one PA.out) Hgn.out
            have Hp2 : Hid _ := hp2
            cases hp with
            | stop e7 h1 h2 h3 h4 =>
              subst h2
              clear hp2 h1 h3 h4
              go_wp2
              go_ret
              exact Hp2.out
            | go s7 M7 g7 h1 h2 h3 h4 h5 h6 h7 =>
              subst h2
              clear hp2 h1 h3 h4 h5 h6 h7
              go_wp2
              go_ret
              exact Hp2.out
          · have hb' : (kb == 0) = false := by simpa using hb
            have hXb : XB = .mk kb mb sb eb (lb.map (Ty.app f)) := by
              rcases PB.out with ⟨h, _⟩ | ⟨_, h⟩
              · exact absurd h hb
              · exact h
            have htop : XA.top XB = (Ty.mk ka ma sa ea la).top (.mk kb mb sb eb lb) := by rw [hXa, hXb]; simp [Ty.top, Ty.kind, Ty.nam, Ty.num, Ty.args]
            go_wp2_with fail
            refine (sameTop_any wc ka ma sa ea la pa capa kb mb sb eb lb pb capb).mono ?_
            rintro e10 w6 ⟨rfl, hb6⟩
            have HS6 : Hid (Sq μ wb w6 sp bM bQ n nq M2 f q V) := C7.out.kp (X := []) (Kp.of_below hb6) (by simp)
            have HK6 : Hid (Kp [bM, bQ, sp] w w6) := (C9.out.mono (by simp)).trans (Kp.of_below hb6)
            have HA6 : Hid (Box w6 w.heap.size (.int .i64 ka) (.int .i64 ma) (.string sa) (.int .i64 ea) (.slice pa la.length capa)) := HA.out.kp (X := []) (Kp.of_below hb6) (by simp)
            have HB6 : Hid (Box w6 (w.heap.size + 1) (.int .i64 kb) (.int .i64 mb) (.string sb) (.int .i64 eb) (.slice pb lb.length capb)) := HBx.out.kp (X := []) (Kp.of_below hb6) (by simp)
            have HG6 : Hid (SolBox w6 sp bM bQ gr) := HGc.out.kp (X := []) (Kp.of_below hb6) (by simp)
            clear hb6 C9 C7 HA HBx HGc x0 x1 x2 x3 x4 y0 y1 y2 y3 y4
            rw [← htop]
            by_cases ht : XA.top XB = true
            · rw [ht]
              have hstep : St.step ⟨f, q⟩ XA XB = .into (pairsOf f la lb) := by
                rw [step_into (s := ⟨f, q⟩) Hsm.out (by rw [hXa]; exact ha) (by rw [hXb]; exact hb) ht, hXa, hXb]
                rfl
              have hlen : la.length = lb.length := by
                rw [htop] at ht
                simp [Ty.top, Ty.args] at ht
                exact ht.2
              have Hstep : Hid (St.step ⟨f, q⟩ XA XB = .into (pairsOf f la lb)) := hstep
              have Hlen : Hid (la.length = lb.length) := hlen
              have hgood : Good f := HS6.out.sv.agr.good
              have hovA : ∀ x ∈ la, Over V f x := by
                intro x hx y hy
                have := HV.out y (by rw [hXa, Ty.hasV_mk ha, List.any_eq_true]; exact ⟨_, List.mem_map.2 ⟨x, hx, rfl⟩, hy⟩)
                simpa using this
              have hovB : ∀ x ∈ lb, Over V f x := by
                intro x hx y hy
                have := HV'.out y (by rw [hXb, Ty.hasV_mk hb, List.any_eq_true]; exact ⟨_, List.mem_map.2 ⟨x, hx, rfl⟩, hy⟩)
                simpa using this
              have hcA : ∀ i (hi : i < la.length), ((la[i]'hi).app f).count < XA.count := by
                intro i hi
                rw [hXa]
                have := Ty.count_arg (k := ka) (n := ma) (s := sa) (e := ea) (l := la.map (Ty.app f)) i (by simpa using hi)
                rwa [List.getElem_map] at this
              have hcB : ∀ i (hi : i < lb.length), ((lb[i]'hi).app f).count < XB.count := by
                intro i hi
                rw [hXb]
                have := Ty.count_arg (k := kb) (n := mb) (s := sb) (e := eb) (l := lb.map (Ty.app f)) i (by simpa using hi)
                rwa [List.getElem_map] at this
              have Hgood : Hid (Good f) := hgood
              have HovA : Hid (∀ x ∈ la, Over V f x) := hovA
              have HovB : Hid (∀ x ∈ lb, Over V f x) := hovB
              have HcA : Hid (∀ i (hi : i < la.length), ((la[i]'hi).app f).count < XA.count) := hcA
              have HcB : Hid (∀ i (hi : i < lb.length), ((lb[i]'hi).app f).count < XB.count) := hcB
              obtain ⟨pp, cp, hcs, hl1, hl2, hel⟩ := HAt.out.elem
              obtain ⟨rfl, rfl⟩ : pa = pp ∧ capa = cp := by simpa using hcs
              obtain ⟨pp', cp', hcs', hl1', hl2', hel'⟩ := HBt.out.elem
              obtain ⟨rfl, rfl⟩ : pb = pp' ∧ capb = cp' := by simpa using hcs'
              have Hel : Hid _ := hel
              have Hel' : Hid _ := hel'
              unfold maxLen at hl1 hl1'
              obtain ⟨x0, x1, x2, x3, x4⟩ := HA6.out.cells
              clear hgood hovA hovB hcA hcB hcs hcs' hel hel' hstep ht htop hXa hXb ha hb PA PB EA EB FA FB HT Hsh HT' Hsh' HV HV' Hask
              go_wp2_with fail
              clear x0 x1 x2 x3 x4
              go_loopg [80] la.length (fun g iv wr => ∃ (i : Nat), iv = .int .i64 i ∧ i ≤ la.length ∧ g = la.length - i ∧ Hid (∃ (s1 : St) (n1 : Nat) (M1 : Int → Option Ty) (g1 : Int), (SolBox wr sp bM bQ g1 ∧ gr ≤ g1 ∧ g1 ≤ n1 ∧ (g1 = gr → ∀ x : Ty, (x.app s1.sub).count = (x.app f).count)) ∧ Uni ⟨f, q⟩ ((pairsOf f la lb).take i) 0 s1 ∧ Sq μ wb wr sp bM bQ n1 nq M1 s1.sub s1.eq V ∧ Bal n1 M1 V ∧ (n ≤ n1 ∧ (n1 = n → s1.sub = f)) ∧ Kp [bM, bQ, sp] w wr ∧ Box wr w.heap.size (.int .i64 ka) (.int .i64 ma) (.string sa) (.int .i64 ea) (.slice pa la.length capa) ∧ Box wr (w.heap.size + 1) (.int .i64 kb) (.int .i64 mb) (.string sb) (.int .i64 eb) (.slice pb lb.length capb)))
              case atStart => exact ⟨0, rfl, by omega, by omega, ⟨f, q⟩, n, M2, gr, ⟨HG6.out, Int.le_refl _, Hgn.out, fun _ _ => rfl⟩, by rw [List.take_zero]; exact Uni.done _, HS6.out, CB.out, ⟨Nat.le_refl _, fun _ => rfl⟩, HK6.out, HA6.out, HB6.out⟩
              case round =>
                clear HS6 HK6 HA6 HB6 HG6
                obtain ⟨i, rfl, hi1, rfl, HRR⟩ := hrel
                by_cases hi : i < la.length
                · have hi' : (i : Int) < la.length := by omega
                  have hi2 : i < lb.length := by have := Hlen.out; omega
                  have hi2' : (i : Int) < lb.length := by omega
                  obtain ⟨b, o, k1, n1, s1, e1, l1, p1, cap1, rfl, hli, g0, g1, g2, g3, g4, hbw, hty⟩ := Hel.out i hi
                  obtain ⟨b', o', k2, n2, s2, e2, l2, p2, cap2, rfl, hli', x0, x1, x2, x3, x4, hbw', hty'⟩ := Hel'.out i hi2
                  obtain ⟨sr, nr, Mr, g2r, r0, r1, r2, r3, r4, r5, r6, r7⟩ := HRR.out
                  clear HRR
                  have hb := r2.base
                  rw [← hb.cell (p := ⟨b, o + i * 5, none⟩) hbw] at g0
                  rw [← hb.cell (p := ⟨b, o + i * 5 + 1, none⟩) hbw] at g1
                  rw [← hb.cell (p := ⟨b, o + i * 5 + 2, none⟩) hbw] at g2
                  rw [← hb.cell (p := ⟨b, o + i * 5 + 3, none⟩) hbw] at g3
                  rw [← hb.cell (p := ⟨b, o + i * 5 + 4, none⟩) hbw] at g4
                  rw [← hb.cell (p := ⟨b', o' + i * 5, none⟩) hbw'] at x0
                  rw [← hb.cell (p := ⟨b', o' + i * 5 + 1, none⟩) hbw'] at x1
                  rw [← hb.cell (p := ⟨b', o' + i * 5 + 2, none⟩) hbw'] at x2
                  rw [← hb.cell (p := ⟨b', o' + i * 5 + 3, none⟩) hbw'] at x3
                  rw [← hb.cell (p := ⟨b', o' + i * 5 + 4, none⟩) hbw'] at x4
                  have hbr := Nat.lt_of_lt_of_le hbw hb.size
                  have hbr' := Nat.lt_of_lt_of_le hbw' hb.size
                  have a4 := r6.cells.2.2.2.2
                  have c4 := r7.cells.2.2.2.2
                  have hov := fun x hx => r1.over Hgood.out (pairs_over Hgood.out HovA.out HovB.out i) x hx
                  have hvA : ∀ y, ((la[i]'hi).app sr.sub).hasV y = true → V.contains y = true := fun y hy => by simpa using hov _ (HovA.out _ (List.getElem_mem hi)) y hy
                  have hvB : ∀ y, ((lb[i]'hi2).app sr.sub).hasV y = true → V.contains y = true := fun y hy => by simpa using hov _ (HovB.out _ (List.getElem_mem hi2)) y hy
                  have hask : gr = g2r → ((la[i]'hi).app sr.sub).count ≤ 400 ∧ ((lb[i]'hi2).app sr.sub).count ≤ 400 := by
                    intro hh
                    rw [r0.2.2.2 hh.symm, r0.2.2.2 hh.symm]
                    have := HcA.out i hi
                    have := HcB.out i hi2
                    have := Hsm.out
                    omega
                  have hmes : (V.length - nr) * 402 + Nat.min ((la[i]'hi).app sr.sub).count 401 < N := by
                    have h1 := HN.out
                    have h2 := Hsm.out
                    have h3 : Nat.min XA.count 401 = XA.count := Nat.min_eq_left (by omega)
                    rw [h3] at h1
                    have h6 : Nat.min ((la[i]'hi).app sr.sub).count 401 ≤ 401 := Nat.min_le_right _ _
                    have h7 : Nat.min ((la[i]'hi).app sr.sub).count 401 ≤ ((la[i]'hi).app sr.sub).count := Nat.min_le_left _ _
                    have h8 := r3.sum
                    have h9 := HcA.out i hi
                    by_cases hh : nr = n
                    · rw [r4.2 hh] at h6 h7 ⊢
                      subst hh
                      omega
                    · have h10 : V.length - nr + 1 ≤ V.length - n := by have := r4.1; omega
                      have h11 : (V.length - nr + 1) * 402 ≤ (V.length - n) * 402 := Nat.mul_le_mul_right _ h10
                      have h12 := Full.count_pos XA
                      omega
                  have hshA := okm_arg HAs.out i hi
                  have hshB := okm_arg HBs.out i hi2
                  have hmore := fun {e : Int} {s2 : St} (ku : Uni sr [(la[i]'hi, lb[i]'hi2)] e s2) => r1.more Hgood.out hi hi2 ku
                  rw [hli] at hvA hask hmes hshA hty
                  rw [hli'] at hvB hask hshB hty'
                  have hcall := HI.out wr.drew nr Mr sr.sub sr.eq k1 n1 s1 e1 l1 p1 cap1 k2 n2 s2 e2 l2 p2 cap2 gr g2r (r0.1.kp (X := []) (Kp.refl _ _).drew (by simp)) ⟨by omega, r0.2.2.1⟩ r2.drew r3 hty hshA hvA hty' hshB hvB hask hmes
                  have Hcall : Hid _ := hcall
                  have Hmore : Hid (∀ (ez : Int) (sz : St), Uni sr [(.mk k1 n1 s1 e1 l1, .mk k2 n2 s2 e2 l2)] ez sz → Uni ⟨f, q⟩ ((pairsOf f la lb).take (i + 1)) ez sz) := by
                    intro ez sz ku
                    rw [← hli, ← hli'] at ku
                    exact hmore ku
                  have R0 : Hid (gr ≤ g2r ∧ (g2r = gr → ∀ x : Ty, (x.app sr.sub).count = (x.app f).count)) := ⟨r0.2.1, r0.2.2.2⟩
                  have R4 : Hid (n ≤ nr ∧ (nr = n → sr.sub = f)) := r4
                  have R5 : Hid (Kp [bM, bQ, sp] w wr.drew) := r5.drew
                  have R6 : Hid (Box wr.drew w.heap.size (.int .i64 ka) (.int .i64 ma) (.string sa) (.int .i64 ea) (.slice (some ⟨b, o, none⟩) la.length capa)) := r6.kp (X := []) (Kp.refl _ _).drew (by simp)
                  have R7 : Hid (Box wr.drew (w.heap.size + 1) (.int .i64 kb) (.int .i64 mb) (.string sb) (.int .i64 eb) (.slice (some ⟨b', o', none⟩) lb.length capb)) := r7.kp (X := []) (Kp.refl _ _).drew (by simp)
                  clear hcall hmore hty hty' hli hli' hb r0 r1 r2 r3 r4 r5 r6 r7 hov hvA hvB hask hmes hshA hshB Hel Hel' HI
                  go_wp2_with fail
                  go_region_with (go_at_call 30; refine Calls.mono Hcall.out ?_; rintro e10 w7 hp; obtain ⟨ev, rfl⟩ := hp.ret; have Hp : Hid _ := hp; clear hp)
                  all_goals clear Hcall g0 g1 g2 g3 g4 x0 x1 x2 x3 x4 a4 c4
                  all_goals cases Hp.out
                  all_goals clear Hp
                  all_goals first
                    | (rename_i ez sz h1 h2 h3 h4 h5
                       have hez : ev = ez := by injection h3 with h3; injection h3
                       subst hez
                       have hz : (ev != 0) = true := by simpa using h2
                       have H1 : Hid _ := h1
                       have H2 : Hid (¬ ev = 0) := h2
                       have H4 : Hid _ := h4
                       have H5 : Hid _ := h5
                       clear h1 h2 h3 h4 h5
                       go_wp2
                       go_ret
                       exact SamePost.fail ev sz (Uni.into _ _ _ _ _ (pairsOf f la lb) _ (by show St.step ⟨f, q⟩ ((Ty.mk k m s e l).app f) ((Ty.mk k' m' s' e' l').app f) = _; rw [HXA.out, HXB.out]; exact Hstep.out) (by rw [List.append_nil]; exact Uni.whole (Hmore.out _ _ H1.out) H2.out)) H2.out rfl (R5.out.trans H4.out) H5.out)
                    | (rename_i sz nz Mz gz h1 h2 h3 h4 h5 h6 h7 h8
                       have hez : ev = 0 := by injection h2 with h2; injection h2
                       subst hez
                       have q1 := Hmore.out _ _ h1
                       have q4 : n ≤ nz ∧ (nz = n → sz.sub = f) := ⟨Nat.le_trans R4.out.1 h5.1, fun h => by have := R4.out.1; have := h5.1; rw [h5.2 (by omega), R4.out.2 (by omega)]⟩
                       have q0 : SolBox w7 sp bM bQ gz ∧ gr ≤ gz ∧ gz ≤ nz ∧ (gz = gr → ∀ x : Ty, (x.app sz.sub).count = (x.app f).count) := ⟨h7, Int.le_trans R0.out.1 h8.1, h8.2.1, fun h x => by have := R0.out.1; have := h8.1; rw [h8.2.2 (by omega) x, R0.out.2 (by omega) x]⟩
                       have q5 := R5.out.trans h6
                       have q6 := R6.out.kp h6 (by simp <;> omega)
                       have q7 := R7.out.kp h6 (by simp <;> omega)
                       have Q : Hid _ := (show (∃ (s1 : St) (n1 : Nat) (M1 : Int → Option Ty) (g1 : Int), (SolBox w7 sp bM bQ g1 ∧ gr ≤ g1 ∧ g1 ≤ n1 ∧ (g1 = gr → ∀ x : Ty, (x.app s1.sub).count = (x.app f).count)) ∧ Uni ⟨f, q⟩ ((pairsOf f la lb).take (i + 1)) 0 s1 ∧ Sq μ wb w7 sp bM bQ n1 nq M1 s1.sub s1.eq V ∧ Bal n1 M1 V ∧ (n ≤ n1 ∧ (n1 = n → s1.sub = f)) ∧ Kp [bM, bQ, sp] w w7 ∧ Box w7 w.heap.size (.int .i64 ka) (.int .i64 ma) (.string sa) (.int .i64 ea) (.slice (some ⟨b, o, none⟩) la.length capa) ∧ Box w7 (w.heap.size + 1) (.int .i64 kb) (.int .i64 mb) (.string sb) (.int .i64 eb) (.slice (some ⟨b', o', none⟩) lb.length capb)) from ⟨sz, nz, Mz, gz, q0, q1, h3, h4, q4, q5, q6, q7⟩)
                       clear h1 h2 h3 h4 h5 h6 h7 h8 q0 q1 q4 q5 q6 q7
                       go_wp2
                       go_roundg (la.length - (i + 1))
                       case measure => omega
                       case rel => exact ⟨i + 1, by first | rfl | (congr 1; omega) | go_num, by omega, rfl, Q⟩)
                · have hi' : ¬ (i : Int) < la.length := by omega
                  go_wp2
                  go_ret
                  obtain ⟨sr, nr, Mr, g2r, r0, r1, r2, r3, r4, r5, r6, r7⟩ := HRR.out
                  rw [List.take_of_length_le (by rw [pairs_len f Hlen.out]; omega)] at r1
                  exact SamePost.ok sr nr Mr g2r (Uni.into _ _ _ _ _ (pairsOf f la lb) _ (by show St.step ⟨f, q⟩ ((Ty.mk k m s e l).app f) ((Ty.mk k' m' s' e' l').app f) = _; rw [HXA.out, HXB.out]; exact Hstep.out) (by rw [List.append_nil]; exact r1)) rfl r2 r3 r4 r5 r0.1 r0.2
            · have ht' : XA.top XB = false := by simpa using ht
              rw [ht']
              have Hstep : Hid (St.step ⟨f, q⟩ XA XB = .stop 9) := step_clash Hsm.out (by rw [hXa]; exact ha) (by rw [hXb]; exact hb) ht'
              clear ht ht' htop hXa hXb ha hb
              go_wp2
              go_ret
              exact SamePost.fail 9 ⟨f, q⟩ (Uni.stop _ _ _ _ _ (by show St.step ⟨f, q⟩ ((Ty.mk k m s e l).app f) ((Ty.mk k' m' s' e' l').app f) = .stop 9; rw [HXA.out, HXB.out]; exact Hstep.out)) (by decide) rfl HK6.out HS6.out.base
theorem same_any (wb : World) (sp bM bQ nq : Nat) (V : List Int) : ∀ N, SameAt μ wb sp bM bQ nq V N
  | 0 => fun _ _ _ _ _ _ _ _ _ _ _ _ _ _ _ _ _ _ _ _ _ _ _ _ _ _ _ _ _ _ _ _ h => absurd h (Nat.not_lt_zero _)
  | N + 1 => fun w n M f q k m s e l p cap k' m' s' e' l' p' cap' asked gr hG hg h1 h2 h3 h4 h5 h6 h7 h8 h9 h10 => same_step wb sp bM bQ nq V N (same_any wb sp bM bQ nq V N) w n M f q k m s e l p cap k' m' s' e' l' p' cap' asked gr hG hg h1 h2 h3 h4 h5 h6 h7 h8 h9 h10
end Go.Proofs.Ytbgpjaniohpfaaa
