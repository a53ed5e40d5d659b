/-
  What a variable stands for in the end (top).
-/
import Derived.Test.YtbgpjaniohpfaaaK3
namespace Go.Proofs.Ytbgpjaniohpfaaa
open Go.RowKit Go.Deep
variable {μ : Marks}
/-- The map of what variables stand for, and the solver that leads to it; the types lie in an earlier world, of which nothing has changed. -/
structure Sv (μ : Marks) (wb w : World) (sp bM n : Nat) (M : Int → Option Ty) (f : Int → Ty) : Prop where
  base : Below wb.heap.size wb w
  cell : w.cell? ⟨sp, 0, none⟩ = some (.map (some bM))
  map : StandsAt μ wb w bM n M
  agr : Agr M f
  hi : wb.heap.size ≤ bM ∧ wb.heap.size ≤ sp
  room : n < maxLen
theorem Sv.kp {X : List Nat} {wb w w' : World} {sp bM n : Nat} {M : Int → Option Ty} {f : Int → Ty} (h : Sv μ wb w sp bM n M f) (hk : Kp X w w') (hX : sp ∉ X ∧ bM ∉ X ∧ ∀ x ∈ X, wb.heap.size ≤ x) : Sv μ wb w' sp bM n M f :=
  ⟨h.base.trans (hk.below h.base.size hX.2.2), hk.cell h.cell hX.1, h.map.kp hk hX.2.1, h.agr, h.hi, h.room⟩
theorem Sv.below {wb w w' : World} {sp bM n : Nat} {M : Int → Option Ty} {f : Int → Ty} (h : Sv μ wb w sp bM n M f) (hb : Below w.heap.size w w') : Sv μ wb w' sp bM n M f :=
  h.kp (X := []) (Kp.of_below hb) (by simp)
theorem Sv.drew {wb w : World} {sp bM n : Nat} {M : Int → Option Ty} {f : Int → Ty} (h : Sv μ wb w sp bM n M f) : Sv μ wb w.drew sp bM n M f := h.kp (X := []) (Kp.refl _ _).drew (by simp)
theorem Sv.lt {wb w : World} {sp bM n : Nat} {M : Int → Option Ty} {f : Int → Ty} (h : Sv μ wb w sp bM n M f) : sp < w.heap.size ∧ bM < w.heap.size ∧ sp ≠ bM := by
  refine ⟨World.block_lt_of_cell? _ _ h.cell, h.map.lt, ?_⟩
  obtain ⟨⟨F, h1, _⟩, _⟩ := h.map
  exact h1.ne h.cell
/-- What is found where one looks what a variable stands for. -/
def Foll (μ : Marks) (wb : World) (M : Int → Option Ty) (u : Ty) (d0 d1 d2 d3 d4 : Value) (ok : Bool) : Prop :=
  (ok = false ∧ ¬ (u.kind = 0 ∧ (M u.num).isSome = true)) ∨ (ok = true ∧ u.kind = 0 ∧ ∃ k m s e l p cap, d0 = .int .i64 k ∧ d1 = .int .i64 m ∧ d2 = .string s ∧ d3 = .int .i64 e ∧ d4 = .slice p (l : List Ty).length cap ∧
    M u.num = some (.mk k m s e l) ∧ TyIn wb [.int .i64 k, .int .i64 m, .string s, .int .i64 e, .slice p l.length cap] (.mk k m s e l) ∧ (Ty.mk k m s e l).okm μ)
def One5 (d0 d1 d2 d3 d4 : Value) : Prop := d0.oneCell' = true ∧ d1.oneCell' = true ∧ d2.oneCell' = true ∧ d3.oneCell' = true ∧ d4.oneCell' = true
theorem heap_size_alloc (w : World) (o : Obj) : (w.alloc o).heap.size = w.heap.size + 1 := by simp
theorem follow_sv {wb w : World} {sp bM n : Nat} {M : Int → Option Ty} {f : Int → Ty} (h : Sv μ wb w sp bM n M f) {k m : Int} {s : ByteArray} {e : Int} {l : List Ty} {p : Option Addr} {cap : Nat} (hT : TyIn wb [.int .i64 k, .int .i64 m, .string s, .int .i64 e, .slice p l.length cap] (.mk k m s e l)) :
    Calls Try.prog 49 #[.pointer (some ⟨sp, 0, none⟩), .agg #[.int .i64 k, .int .i64 m, .string s, .int .i64 e, .slice p l.length cap]] w fun e' w' => Below w.heap.size w w' ∧
      ∃ d0 d1 d2 d3 d4 ok, e' = .returned (.tuple #[.agg #[d0, d1, d2, d3, d4], .bool ok]) ∧ One5 d0 d1 d2 d3 d4 ∧ Foll μ wb M (.mk k m s e l) d0 d1 d2 d3 d4 ok := by
  refine (follow_any wb w sp bM n M k m s e l p cap h.cell h.map (shaped_wf hT).2.1).mono ?_
  rintro e1 w1 ⟨hb1, ⟨rfl, hno⟩ | ⟨T, cs, hk, hm, rfl, hT1, hS1⟩⟩
  · exact ⟨hb1, _, _, _, _, _, false, rfl, ⟨rfl, rfl, rfl, rfl, rfl⟩, .inl ⟨rfl, hno⟩⟩
  · cases T with
    | mk k' n' s' e' l' =>
      obtain ⟨p', cap', rfl, _⟩ := hT1.elem
      exact ⟨hb1, _, _, _, _, _, true, rfl, ⟨rfl, rfl, rfl, rfl, rfl⟩, .inr ⟨rfl, hk, k', n', s', e', l', p', cap', rfl, rfl, rfl, rfl, rfl, hm, hT1, hS1⟩⟩
set_option maxHeartbeats 2000000 in
set_option maxRecDepth 100000 in
theorem top_any (wb w : World) (sp bM n : Nat) (M : Int → Option Ty) (f : Int → Ty) (k m : Int) (s : ByteArray) (e : Int) (l : List Ty) (p : Option Addr) (cap : Nat)
    (hS : Sv μ wb w sp bM n M f) (hT : TyIn wb [.int .i64 k, .int .i64 m, .string s, .int .i64 e, .slice p l.length cap] (.mk k m s e l)) (hsh : (Ty.mk k m s e l).okm μ) :
    Calls Try.prog 39 #[.pointer (some ⟨sp, 0, none⟩), .agg #[.int .i64 k, .int .i64 m, .string s, .int .i64 e, .slice p l.length cap]] w fun e' w' =>
      ∃ k' m' s' e1 l' p' cap' M', e' = .returned (.agg #[.int .i64 k', .int .i64 m', .string s', .int .i64 e1, .slice p' (l' : List Ty).length cap']) ∧ TyIn wb [.int .i64 k', .int .i64 m', .string s', .int .i64 e1, .slice p' l'.length cap'] (.mk k' m' s' e1 l') ∧
        (Ty.mk k' m' s' e1 l').okm μ ∧ Full M' (.mk k' m' s' e1 l') ((Ty.mk k m s e l).app f) ∧ (k' = 0 → M' m' = none) ∧ (∀ x, (M' x).isSome = (M x).isSome) ∧ Sv μ wb w' sp bM n M' f ∧ Kp [bM] w w' := by
  have HS : Hid (Sv μ wb w sp bM n M f) := hS
  have HT : Hid (TyIn wb [.int .i64 k, .int .i64 m, .string s, .int .i64 e, .slice p l.length cap] (.mk k m s e l)) := hT
  have Hsh : Hid ((Ty.mk k m s e l).okm μ) := hsh
  obtain ⟨K, v, hc, hfv, hkv⟩ := (hS.agr.full (.mk k m s e l)).chain
  have Hc : Hid (Chain M K (.mk k m s e l) v) := hc
  have Hfv : Hid (Full M v ((Ty.mk k m s e l).app f)) := hfv
  have Hkv : Hid (v.kind = 0 → M v.num = none) := hkv
  have hK : K < 9223372036854775807 := by have h1 := hS.map.chain hc; have h2 := hS.room; unfold maxLen at h2; omega
  clear hS hT hsh hc hfv hkv
  go_enter Try.func39, Try.ntmps39
  go_wp2_with fail
  have hb0 := (((Below.refl w.heap.size w).alloc (Nat.le_refl _) (Obj.cells #[Value.int IntKind.i64 k, Value.int IntKind.i64 m, Value.string s, Value.int IntKind.i64 e, Value.slice p l.length cap] 33)).alloc (by simp) (Obj.cells #[Value.int IntKind.i64 0, Value.int IntKind.i64 0, Value.string { data := #[] }, Value.int IntKind.i64 0, Value.slice none 0 0] 33)).alloc (by simp; omega) (Obj.cells #[Value.int IntKind.i64 k, Value.int IntKind.i64 m, Value.string s, Value.int IntKind.i64 e, Value.slice p l.length cap] 33)
  have hz0 : w.heap.size + 3 ≤ ((((w.alloc (Obj.cells #[Value.int IntKind.i64 k, Value.int IntKind.i64 m, Value.string s, Value.int IntKind.i64 e, Value.slice p l.length cap] 33)).alloc (Obj.cells #[Value.int IntKind.i64 0, Value.int IntKind.i64 0, Value.string { data := #[] }, Value.int IntKind.i64 0, Value.slice none 0 0] 33)).alloc (Obj.cells #[Value.int IntKind.i64 k, Value.int IntKind.i64 m, Value.string s, Value.int IntKind.i64 e, Value.slice p l.length cap] 33)).heap.size) := by simp
  have hx1 := (Box.new w (.int .i64 k) (.int .i64 m) (.string s) (.int .i64 e) (.slice p l.length cap)).kp (Kp.alloc [] _ (Obj.cells #[Value.int IntKind.i64 0, Value.int IntKind.i64 0, Value.string { data := #[] }, Value.int IntKind.i64 0, Value.slice none 0 0] 33)) (by simp) |>.kp (Kp.alloc [] _ (Obj.cells #[Value.int IntKind.i64 k, Value.int IntKind.i64 m, Value.string s, Value.int IntKind.i64 e, Value.slice p l.length cap] 33)) (by simp)
  have hx2 := (Box.new (w.alloc (Obj.cells #[Value.int IntKind.i64 k, Value.int IntKind.i64 m, Value.string s, Value.int IntKind.i64 e, Value.slice p l.length cap] 33)) (.int .i64 0) (.int .i64 0) (.string { data := #[] }) (.int .i64 0) (.slice none 0 0)).kp (Kp.alloc [] _ (Obj.cells #[Value.int IntKind.i64 k, Value.int IntKind.i64 m, Value.string s, Value.int IntKind.i64 e, Value.slice p l.length cap] 33)) (by simp)
  have hx3 := Box.new ((w.alloc (Obj.cells #[Value.int IntKind.i64 k, Value.int IntKind.i64 m, Value.string s, Value.int IntKind.i64 e, Value.slice p l.length cap] 33)).alloc (Obj.cells #[Value.int IntKind.i64 0, Value.int IntKind.i64 0, Value.string { data := #[] }, Value.int IntKind.i64 0, Value.slice none 0 0] 33)) (.int .i64 k) (.int .i64 m) (.string s) (.int .i64 e) (.slice p l.length cap)
  rw [heap_size_alloc] at hx2
  rw [heap_size_alloc, heap_size_alloc] at hx3
  generalize ((w.alloc (Obj.cells #[Value.int IntKind.i64 k, Value.int IntKind.i64 m, Value.string s, Value.int IntKind.i64 e, Value.slice p l.length cap] 33)).alloc (Obj.cells #[Value.int IntKind.i64 0, Value.int IntKind.i64 0, Value.string { data := #[] }, Value.int IntKind.i64 0, Value.slice none 0 0] 33)).alloc (Obj.cells #[Value.int IntKind.i64 k, Value.int IntKind.i64 m, Value.string s, Value.int IntKind.i64 e, Value.slice p l.length cap] 33) = w0 at *
  refine (follow_sv (HS.out.below hb0) HT.out).mono ?_
  rintro e1 w1 ⟨hb1, d0, d1, d2, d3, d4, ok, rfl, hone, hfo⟩
  have Hone : Hid (One5 d0 d1 d2 d3 d4) := hone
  have Hfo : Hid (Foll μ wb M (.mk k m s e l) d0 d1 d2 d3 d4 ok) := hfo
  clear hone hfo
  go_wp2_with (refine wpList_store5 rfl _ _ rfl rfl _ rfl rfl (Box.new _ _ _ _ _ _) Hone.out ?_; intro w2 hB2 hk2)
  have hkp : Kp [w1.heap.size] w0 w2 := (Kp.of_below hb1).trans ((Kp.alloc _ _ _).trans hk2)
  have hlt1 := hb1.size
  have hbw : Below w.heap.size w w2 := (hb0.trans ((hkp.below (B := w.heap.size) (by omega) (by simp; omega)).mono (Nat.le_refl _)))
  have hbw0 : Below w0.heap.size w0 w2 := hkp.below (Nat.le_refl _) (by simp; exact hlt1)
  have hy1 : TyBox μ wb w2 w.heap.size (.mk k m s e l) := (TyBox.mk k m s e l p cap hx1 HT.out Hsh.out).kp (X := []) (Kp.of_below hbw0) (by simp)
  have hy2 := hx2.kp (X := []) (Kp.of_below hbw0) (by simp)
  have hy3 : TyBox μ wb w2 (w.heap.size + 1 + 1) (.mk k m s e l) := (TyBox.mk k m s e l p cap hx3 HT.out Hsh.out).kp (X := []) (Kp.of_below hbw0) (by simp)
  have hN : w.heap.size + 1 + 1 < w1.heap.size := by omega
  generalize hNN : w1.heap.size = N0 at *
  clear hx1 hx2 hx3 hb0 hz0 hb1 hk2 hkp hbw0 hlt1 hNN w0 w1
  go_loopg [6, 7, 8] K (fun g sv pv okv wr => ∃ (u : Ty) (N st : Nat) (d0 d1 d2 d3 d4 : Value) (ok : Bool), sv = .int .i64 st ∧ pv = .pointer (some ⟨N, 0, none⟩) ∧ okv = .bool ok ∧ w.heap.size + 1 + 1 < N ∧ st + g = K ∧ Hid (TyBox μ wb wr w.heap.size (.mk k m s e l) ∧ Box wr (w.heap.size + 1) (.int .i64 0) (.int .i64 0) (.string { data := #[] }) (.int .i64 0) (.slice none 0 0) ∧ TyBox μ wb wr (w.heap.size + 1 + 1) u ∧ Box wr N d0 d1 d2 d3 d4 ∧ Foll μ wb M u d0 d1 d2 d3 d4 ok ∧ Chain M g u v ∧ Below w.heap.size w wr))
  case atStart => exact ⟨_, N0, 0, d0, d1, d2, d3, d4, ok, rfl, rfl, rfl, hN, by omega, hy1, hy2, hy3, hB2, Hfo.out, Hc.out, hbw⟩
  case round =>
    clear hy1 hy2 hy3 Hfo hB2 hN hbw Hone
    obtain ⟨u, N, st, d0, d1, d2, d3, d4, ok, rfl, rfl, rfl, hN, hst, HR⟩ := hrel
    obtain ⟨r1, r2, r3, r4, r5, r6, r7⟩ := HR.out
    have Hst : Hid (st + gk = K) := hst
    have hst2 : st ≤ K := by omega
    clear HR hst
    rcases r5 with ⟨rfl, hno⟩ | ⟨rfl, hu0, k1, m1, s1, e1, l1, p1, cap1, rfl, rfl, rfl, rfl, rfl, hum, hut, hus⟩
    · obtain ⟨rfl, rfl⟩ : u = v ∧ gk = 0 := by
        cases r6 with
        | here _ _ => exact ⟨rfl, rfl⟩
        | step j _ x _ g0 g1 g2 => exact absurd ⟨g0, by rw [g1]; rfl⟩ hno
      have hsv := HS.out.below r7
      have hkw : Kp [bM] w wr := Kp.of_below r7
      have hfull := HS.out.agr.full (.mk k m s e l)
      have Hlt := HS.out.lt
      have Hhi := HS.out.hi
      generalize hX : (Ty.mk k m s e l).app f = X at *
      have hc2 : Chain M st (.mk k m s e l) u := by have h1 := Hst.out; have : st = K := by omega
                                                    rw [this]; exact Hc.out
      clear Hst r4 r6 r7 hno hN
      have R1 : Hid _ := r1
      have R2 : Hid _ := r2
      have R3 : Hid _ := r3
      have Hc2 : Hid _ := hc2
      clear r1 r2 r3 hc2
      go_wp2_with fail
      go_loopg [6] st (fun g sv wr => ∃ (y : Ty) (Mr : Int → Option Ty), sv = .int .i64 g ∧ g ≤ K ∧ Hid (TyBox μ wb wr w.heap.size y ∧ Box wr (w.heap.size + 1) (.int .i64 0) (.int .i64 0) (.string { data := #[] }) (.int .i64 0) (.slice none 0 0) ∧ TyBox μ wb wr (w.heap.size + 1 + 1) u ∧ Chain Mr g y u ∧ Full Mr y X ∧ Full Mr u X ∧ (u.kind = 0 → Mr u.num = none) ∧ Sv μ wb wr sp bM n Mr f ∧ Kp [bM] w wr ∧ ∀ x, (Mr x).isSome = (M x).isSome))
      case atStart => exact ⟨_, M, rfl, hst2, R1.out, R2.out, R3.out, Hc2.out, hfull, Hfv.out, Hkv.out, hsv, hkw, fun _ => rfl⟩
      case round =>
        clear R1 R2 R3 Hc2 hfull hsv hkw
        obtain ⟨y, Mr, rfl, hgK, HR⟩ := hrel
        obtain ⟨r1, r2, r3, r6, r7, r8, r9, r10, r11, r12⟩ := HR.out
        clear HR
        cases r3 with
        | mk ku mu su eu lu pu capu hE hEt hEs =>
        obtain ⟨n0, n1, n2, n3, n4⟩ := hE.cells
        have RE : Hid (Box wr (w.heap.size + 1 + 1) (.int .i64 ku) (.int .i64 mu) (.string su) (.int .i64 eu) (.slice pu lu.length capu)) := hE
        have REt : Hid (TyIn wb [.int .i64 ku, .int .i64 mu, .string su, .int .i64 eu, .slice pu lu.length capu] (.mk ku mu su eu lu)) := hEt
        have REs : Hid ((Ty.mk ku mu su eu lu).okm μ) := hEs
        have R2 : Hid (Box wr (w.heap.size + 1) (.int .i64 0) (.int .i64 0) (.string { data := #[] }) (.int .i64 0) (.slice none 0 0)) := r2
        have R8 : Hid (Full Mr (.mk ku mu su eu lu) X) := r8
        have R9 : Hid (ku = 0 → Mr mu = none) := r9
        have R10 : Hid (Sv μ wb wr sp bM n Mr f) := r10
        have R11 : Hid (Kp [bM] w wr) := r11
        have R12 : Hid (∀ x, (Mr x).isSome = (M x).isSome) := r12
        clear hE hEt hEs r2 r8 r9 r10 r11 r12
        by_cases hg : gk ≤ 1
        · have hg' : ((gk : Int) > 1) = False := by simp; omega
          have hg2 : ¬ (1 : Int) < (gk : Int) := by omega
          clear r1 r6 r7
          go_wp2_with (refine wpList_store5 rfl _ _ rfl rfl _ rfl rfl R2.out (one5 _ _ _ _ _ _ _) ?_; intro w6 hB6 hk6)
          obtain ⟨q0, q1, q2, q3, q4⟩ := hB6.cells
          refine bodyPost_ret (v := .agg #[.int .i64 ku, .int .i64 mu, .string su, .int .i64 eu, .slice pu lu.length capu]) (by simp [results, Try.results39, go_sem, q0, q1, q2, q3, q4]) rfl ⟨ku, mu, su, eu, lu, pu, capu, rfl, REt.out, REs.out, Mr, by first | exact R8.out | (rw [hX]; exact R8.out), R9.out, R12.out, R10.out.kp hk6 ⟨?_, ?_, ?_⟩, R11.out.then hk6 ?_⟩
          · simp; omega
          · simp; omega
          · simp; omega
          · simp
        · obtain ⟨j, rfl⟩ : ∃ j, gk = j + 1 := ⟨gk - 1, by omega⟩
          have hg2 : (1 : Int) < ((j + 1 : Nat) : Int) := by omega
          cases r1 with
          | mk k0 m0 s0 e0 l0 p0 cap0 hT hTt hTs =>
          obtain ⟨hu0, xx, hum, hch⟩ : k0 = 0 ∧ ∃ xx, Mr m0 = some xx ∧ Chain Mr j xx (.mk ku mu su eu lu) := by
            cases r6 with
            | step j _ x _ g0 g1 g2 => exact ⟨g0, x, g1, g2⟩
          have hfx : Full Mr xx X := by
            cases r7 with
            | bound _ _ _ _ _ U _ hk hu h => rw [hum] at hu; cases hu; exact h
            | free _ _ _ _ _ hk hu => rw [hum] at hu; cases hu
            | args _ _ _ _ _ r hk _ _ => exact absurd hu0 hk
          have hch' : Chain (upd Mr m0 (some (.mk ku mu su eu lu))) j xx (.mk ku mu su eu lu) := r6.shorter hu0 (by show (Mr m0).isSome = true; rw [hum]; rfl) _ hch (Nat.le_refl _)
          have hfx' := Full.shorter hum hfx R8.out R9.out _ (Nat.le_refl _) hfx
          have hfu' := Full.shorter hum hfx R8.out R9.out _ (Nat.le_refl _) R8.out
          have hagr' := R10.out.agr.shorter hum hfx R8.out R9.out
          have hfree' : ku = 0 → upd Mr m0 (some (.mk ku mu su eu lu)) mu = none := by
            intro hk
            rw [upd_other _ _ (by rintro rfl; rw [R9.out hk] at hum; cases hum)]
            exact R9.out hk
          have hdom' : ∀ x, (upd Mr m0 (some (.mk ku mu su eu lu)) x).isSome = (M x).isSome := by
            intro x
            rw [← R12.out x]
            by_cases hx : x = m0
            · subst hx; rw [upd_same, hum]; rfl
            · rw [upd_other _ _ hx]
          have hwf := (shaped_wf hTt).2.1
          obtain ⟨⟨FF, hFF, hFM⟩, -⟩ := R10.out.map
          rcases hFM m0 with ⟨h1, h2⟩ | ⟨T, cs, h1, h2, h3, h4⟩
          · rw [h1] at hum; cases hum
          rw [hum] at h1
          cases h1
          cases xx with
          | mk k1 m1 s1 e1 l1 =>
          obtain ⟨p1, cap1, rfl, _⟩ := h3.elem
          have hlook := fun (w' : World) (hk : Kp [] wr w') => (hFF.kp hk (by simp)).look map49 zero33 hwf
          rw [h2] at hlook
          simp only [Option.getD_some] at hlook
          have hl1 : (Instr.lookup 49 (.map (some bM)) (.int .i64 m0) false).run Try.prog wr.drew = .ok (.agg #[.int .i64 k1, .int .i64 m1, .string s1, .int .i64 e1, .slice p1 l1.length cap1]) wr.drew := hlook wr.drew (Kp.refl _ _).drew
          have hl2 : (Instr.lookup 49 (.map (some bM)) (.int .i64 m0) false).run Try.prog (wr.alloc (Obj.cells #[Value.int IntKind.i64 0, Value.int IntKind.i64 0, Value.string { data := #[] }, Value.int IntKind.i64 0, Value.slice none 0 0] 33)).drew = .ok (.agg #[.int .i64 k1, .int .i64 m1, .string s1, .int .i64 e1, .slice p1 l1.length cap1]) (wr.alloc (Obj.cells #[Value.int IntKind.i64 0, Value.int IntKind.i64 0, Value.string { data := #[] }, Value.int IntKind.i64 0, Value.slice none 0 0] 33)).drew := hlook _ (Kp.alloc _ _ _).drew
          clear hlook hFF hFM h2
          have hcs := R10.out.cell
          obtain ⟨y0, y1, y2, y3, y4⟩ := hT.cells
          have hNlt := hT.lt
          have hRElt := RE.out.lt
          have R10lt := R10.out.lt
          have HT0 : Hid (Box wr w.heap.size (.int .i64 k0) (.int .i64 m0) (.string s0) (.int .i64 e0) (.slice p0 l0.length cap0)) := hT
          have Hch : Hid (Chain (upd Mr m0 (some (.mk ku mu su eu lu))) j (.mk k1 m1 s1 e1 l1) (.mk ku mu su eu lu)) := hch'
          have Hfx : Hid (Full (upd Mr m0 (some (.mk ku mu su eu lu))) (.mk k1 m1 s1 e1 l1) X) := hfx'
          have Hfu : Hid (Full (upd Mr m0 (some (.mk ku mu su eu lu))) (.mk ku mu su eu lu) X) := hfu'
          have Hfree : Hid (ku = 0 → upd Mr m0 (some (.mk ku mu su eu lu)) mu = none) := hfree'
          have Hdom : Hid (∀ x, (upd Mr m0 (some (.mk ku mu su eu lu)) x).isSome = (M x).isSome) := hdom'
          have Hagr : Hid (Agr (upd Mr m0 (some (.mk ku mu su eu lu))) f) := hagr'
          have HTx : Hid (TyIn wb [.int .i64 k1, .int .i64 m1, .string s1, .int .i64 e1, .slice p1 l1.length cap1] (.mk k1 m1 s1 e1 l1)) := h3
          have HSx : Hid ((Ty.mk k1 m1 s1 e1 l1).okm μ) := h4
          have Hum : Hid (Mr m0 = some (.mk k1 m1 s1 e1 l1)) := hum
          clear hch hch' hfx hfx' hfu' hfree' hdom' hagr' h3 h4 hum hTt hTs hu0 r6 r7 hT R8 R9 R12
          go_upto_region 11 with fail
          go_cut [9] from 32 to 38 (fun a wx => a = .pointer (some ⟨wr.heap.size, 0, none⟩) ∧ Hid (Kp [] wr wx ∧ Box wx wr.heap.size (.int .i64 k1) (.int .i64 m1) (.string s1) (.int .i64 e1) (.slice p1 l1.length cap1)))
          case first =>
            go_region
            all_goals go_wp2_with fail
            all_goals go_meet
            all_goals exact ⟨rfl, (Kp.alloc _ _ _).drew, (Box.new wr _ _ _ _ _).kp (X := []) (Kp.refl _ _).drew (by simp)⟩
          case rest =>
          obtain ⟨rfl, HCC⟩ := hcut
          obtain ⟨hkq, hNB⟩ := HCC.out
          clear HCC
          rename World => w5
          generalize hNN : wr.heap.size = N5 at *
          have hRE5 := RE.out.kp hkq (by simp)
          have hT5 := HT0.out.kp hkq (by simp)
          have hS5 := R10.out.kp hkq (by simp)
          have hR25 := R2.out.kp hkq (by simp)
          obtain ⟨w7, hrun, hst7, hk7⟩ := hS5.drew.map.store hS5.room hwf REt.out REs.out
          rw [Hum.out, if_pos (by rfl)] at hst7
          have hk7' : Kp [bM] w5 w7 := (Kp.refl _ _).drew.trans hk7
          have hwb := HS.out.base.size
          have hsv7 : Sv μ wb w7 sp bM n (upd Mr m0 (some (.mk ku mu su eu lu))) f := ⟨hS5.base.trans (hk7'.below hS5.base.size (by simp; omega)), hk7'.cell hS5.cell (by simp; omega), hst7, Hagr.out, hS5.hi, hS5.room⟩
          have hcs5 := hS5.cell
          obtain ⟨o0, o1, o2, o3, o4⟩ := hRE5.cells
          obtain ⟨z0, z1, z2, z3, z4⟩ := hT5.cells
          have RT7 : Hid (Box w7 w.heap.size (.int .i64 k0) (.int .i64 m0) (.string s0) (.int .i64 e0) (.slice p0 l0.length cap0)) := hT5.kp hk7' (by simp; omega)
          have RN7 : Box w7 N5 (.int .i64 k1) (.int .i64 m1) (.string s1) (.int .i64 e1) (.slice p1 l1.length cap1) := hNB.kp hk7' (by simp; omega)
          obtain ⟨v0, v1, v2, v3, v4⟩ := RN7.cells
          have R27 : Hid (Box w7 (w.heap.size + 1) (.int .i64 0) (.int .i64 0) (.string { data := #[] }) (.int .i64 0) (.slice none 0 0)) := hR25.kp hk7' (by simp; omega)
          have RE7 : Hid (Box w7 (w.heap.size + 1 + 1) (.int .i64 ku) (.int .i64 mu) (.string su) (.int .i64 eu) (.slice pu lu.length capu)) := hRE5.kp hk7' (by simp; omega)
          have RK7 : Hid (Kp [bM] w w7) := R11.out.then (((hkq.mono (by simp)).trans hk7') : Kp [bM] wr w7) (by simp)
          have RS7 : Hid (Sv μ wb w7 sp bM n (upd Mr m0 (some (.mk ku mu su eu lu))) f) := hsv7
          clear hsv7 hk7' RN7 hst7 hk7 hRE5 hT5 hS5 hR25 hNB hkq R10 R11 HT0 RE R2 hl1 hl2 y0 y1 y2 y3 y4 n0 n1 n2 n3 n4 hcs
          go_wp2_with fail
          go_region
          go_wp2_with (refine wpList_store5 rfl _ _ rfl rfl _ rfl rfl RT7.out (one5 _ _ _ _ _ _ _) ?_; intro w6 hB6 hk6)
          have g1 : TyBox μ wb w6 w.heap.size (.mk k1 m1 s1 e1 l1) := TyBox.mk k1 m1 s1 e1 l1 p1 cap1 hB6 HTx.out HSx.out
          have g2 := R27.out.kp hk6 (by simp)
          have g3 : TyBox μ wb w6 (w.heap.size + 1 + 1) (.mk ku mu su eu lu) := (TyBox.mk ku mu su eu lu pu capu RE7.out REt.out REs.out).kp hk6 (by simp; omega)
          have g4 := RS7.out.kp hk6 ⟨by simp; omega, by simp; omega, by simp; omega⟩
          have g5 : Kp [bM] w w6 := RK7.out.then hk6 (by simp)
          go_wp2
          go_roundg j
          case measure => omega
          case rel => exact ⟨_, _, by first | rfl | (congr 1; omega) | go_num, by omega, g1, g2, g3, Hch.out, Hfx.out, Hfu.out, Hfree.out, g4, g5, Hdom.out⟩
    · cases r3 with
      | mk k0 m0 s0 e0 l0 p0 cap0 hE hEt hEs =>
        obtain ⟨n0, n1, n2, n3, n4⟩ := r4.cells
        have Hum : Hid (M m0 = some (Ty.mk k1 m1 s1 e1 l1)) := hum
        have Hu0 : Hid (k0 = 0) := hu0
        have R1 : Hid _ := r1
        have R2 : Hid (Box wr (w.heap.size + 1) (.int .i64 0) (.int .i64 0) (.string { data := #[] }) (.int .i64 0) (.slice none 0 0)) := r2
        have R4 : Hid (Box wr N (.int .i64 k1) (.int .i64 m1) (.string s1) (.int .i64 e1) (.slice p1 l1.length cap1)) := r4
        have RE : Hid (Box wr (w.heap.size + 1 + 1) (.int .i64 k0) (.int .i64 m0) (.string s0) (.int .i64 e0) (.slice p0 l0.length cap0)) := hE
        have RT : Hid (TyIn wb [.int .i64 k1, .int .i64 m1, .string s1, .int .i64 e1, .slice p1 l1.length cap1] (.mk k1 m1 s1 e1 l1)) := hut
        have RS : Hid ((Ty.mk k1 m1 s1 e1 l1).okm μ) := hus
        have RC : Hid (Chain M gk (.mk k0 m0 s0 e0 l0) v) := r6
        have RB : Hid (Below w.heap.size w wr) := r7
        clear hum hu0 r1 r2 r4 hE hut hus r6 r7 hEt hEs
        go_wp2_with (refine wpList_store5 rfl _ _ rfl rfl _ rfl rfl RE.out (one5 _ _ _ _ _ _ _) ?_; intro w3 hE3 hk3; obtain ⟨x0, x1, x2, x3, x4⟩ := (hE3.kp (Kp.alloc [] w3 (Obj.cells #[Value.int IntKind.i64 k1, Value.int IntKind.i64 m1, Value.string s1, Value.int IntKind.i64 e1, Value.slice p1 l1.length cap1] 33)) (by simp)).cells; obtain ⟨y0, y1, y2, y3, y4⟩ := (R4.out.kp hk3 (by simp; omega)).cells)
        have hE4 := hE3.lt
        have hNN := Box.new w3 (.int .i64 k1) (.int .i64 m1) (.string s1) (.int .i64 e1) (.slice p1 l1.length cap1)
        have hE5 := hE3.kp (Kp.alloc [] w3 (Obj.cells #[Value.int IntKind.i64 k1, Value.int IntKind.i64 m1, Value.string s1, Value.int IntKind.i64 e1, Value.slice p1 l1.length cap1] 33)) (by simp)
        have hkq : Kp [w.heap.size + 1 + 1] wr (w3.alloc (Obj.cells #[Value.int IntKind.i64 k1, Value.int IntKind.i64 m1, Value.string s1, Value.int IntKind.i64 e1, Value.slice p1 l1.length cap1] 33)) := hk3.trans (Kp.alloc _ _ _)
        generalize hN3 : w3.heap.size = N3 at *
        generalize w3.alloc (Obj.cells #[Value.int IntKind.i64 k1, Value.int IntKind.i64 m1, Value.string s1, Value.int IntKind.i64 e1, Value.slice p1 l1.length cap1] 33) = w4 at *
        have hb4 : Below w.heap.size w w4 := RB.out.trans (hkq.below RB.out.size (by simp; omega))
        refine (follow_sv (HS.out.below hb4) RT.out).mono ?_
        rintro e9 w5 ⟨hb5, f0, f1, f2, f3, f4, ok5, rfl, hone5, hfo5⟩
        have Hone : Hid (One5 f0 f1 f2 f3 f4) := hone5
        have Hfo : Hid (Foll μ wb M (.mk k1 m1 s1 e1 l1) f0 f1 f2 f3 f4 ok5) := hfo5
        have HN5 : Hid (Box w5 N3 (.int .i64 k1) (.int .i64 m1) (.string s1) (.int .i64 e1) (.slice p1 l1.length cap1)) := hNN.kp (X := []) (Kp.of_below hb5) (by simp)
        have HE5 : Hid (Box w5 (w.heap.size + 1 + 1) (.int .i64 k1) (.int .i64 m1) (.string s1) (.int .i64 e1) (.slice p1 l1.length cap1)) := hE5.kp (X := []) (Kp.of_below hb5) (by simp)
        have HK5 : Hid (Kp [w.heap.size + 1 + 1] wr w5) := hkq.trans (Kp.of_below hb5)
        clear hone5 hfo5 hNN hE5 hb5 hb4 hkq x0 x1 x2 x3 x4 y0 y1 y2 y3 y4 n0 n1 n2 n3 n4 hE3 hk3 hN3 w3 w4
        go_wp2_with (refine wpList_store5 rfl _ _ rfl rfl _ rfl rfl HN5.out Hone.out ?_; intro w6 hB6 hk6)
        have hchain : ∃ j, gk = j + 1 ∧ Chain M j (.mk k1 m1 s1 e1 l1) v := by
          have h := RC.out
          have hm := Hum.out
          cases h with
          | here _ hh => exact absurd ⟨Hu0.out, by show (M m0).isSome = true; rw [hm]; rfl⟩ hh
          | step j _ x _ g0 g1 g2 =>
            have g1 : M m0 = some x := g1
            rw [hm] at g1
            cases g1
            exact ⟨j, rfl, g2⟩
        obtain ⟨j, hj, hch⟩ := hchain
        have hbb : Below w.heap.size w w6 := (RB.out.trans (HK5.out.below RB.out.size (by simp; omega))).trans (hk6.below (Nat.le_trans RB.out.size HK5.out.size) (by simp; omega))
        have g1 := (TyBox.kp R1.out HK5.out (by simp; omega)).kp hk6 (by simp; omega)
        have g2 := (R2.out.kp HK5.out (by simp)).kp hk6 (by simp; omega)
        have g3 : TyBox μ wb w6 (w.heap.size + 1 + 1) (.mk k1 m1 s1 e1 l1) := (TyBox.mk k1 m1 s1 e1 l1 p1 cap1 HE5.out RT.out RS.out).kp hk6 (by simp; omega)
        go_wp2
        go_roundg j
        case measure => omega
        case rel => exact ⟨_, N3, st + 1, f0, f1, f2, f3, f4, ok5, by first | rfl | (congr 1; omega) | go_num, rfl, rfl, hE4, by have := Hst.out; omega, g1, g2, g3, hB6, Hfo.out, hch, hbb⟩
end Go.Proofs.Ytbgpjaniohpfaaa
