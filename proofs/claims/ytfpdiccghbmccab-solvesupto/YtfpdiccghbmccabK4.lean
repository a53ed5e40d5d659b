/-
  What a variable stands for in the end (top).
-/
import Derived.Test.YtfpdiccghbmccabK3
namespace Go.Proofs.Ytfpdiccghbmccab
open Go.RowKit Go.Deep
/-- The map of what variables stand for, and the solver that leads to it; the types lie in an earlier world, of which nothing has changed. -/
structure Sv (wb w : World) (sp bM n : Nat) (M : Int → Option Ty) (f : Int → Ty) : Prop where
  base : Below wb.heap.size wb w
  cell : w.cell? ⟨sp, 0, none⟩ = some (.map (some bM))
  map : StandsAt wb w bM n M
  agr : Agr M f
  hi : wb.heap.size ≤ bM ∧ wb.heap.size ≤ sp
  room : n < maxLen
theorem Sv.kp {X : List Nat} {wb w w' : World} {sp bM n : Nat} {M : Int → Option Ty} {f : Int → Ty} (h : Sv wb w sp bM n M f) (hk : Kp X w w') (hX : sp ∉ X ∧ bM ∉ X ∧ ∀ x ∈ X, wb.heap.size ≤ x) : Sv wb w' sp bM n M f :=
  ⟨h.base.trans (hk.below h.base.size hX.2.2), hk.cell h.cell hX.1, h.map.kp hk hX.2.1, h.agr, h.hi, h.room⟩
theorem Sv.below {wb w w' : World} {sp bM n : Nat} {M : Int → Option Ty} {f : Int → Ty} (h : Sv wb w sp bM n M f) (hb : Below w.heap.size w w') : Sv wb w' sp bM n M f :=
  h.kp (X := []) (Kp.of_below hb) (by simp)
theorem Sv.drew {wb w : World} {sp bM n : Nat} {M : Int → Option Ty} {f : Int → Ty} (h : Sv wb w sp bM n M f) : Sv wb w.drew sp bM n M f := h.kp (X := []) (Kp.refl _ _).drew (by simp)
theorem Sv.lt {wb w : World} {sp bM n : Nat} {M : Int → Option Ty} {f : Int → Ty} (h : Sv wb w sp bM n M f) : sp < w.heap.size ∧ bM < w.heap.size ∧ sp ≠ bM := by
  refine ⟨World.block_lt_of_cell? _ _ h.cell, h.map.lt, ?_⟩
  obtain ⟨F, h1, _⟩ := h.map
  exact h1.ne h.cell
/-- What is found where one looks what a variable stands for. -/
def Foll (wb : World) (M : Int → Option Ty) (u : Ty) (d0 d1 d2 d3 d4 : Value) (ok : Bool) : Prop :=
  (ok = false ∧ ¬ (u.kind = 0 ∧ (M u.num).isSome = true)) ∨ (ok = true ∧ u.kind = 0 ∧ ∃ k m s e l p cap, d0 = .int .i64 k ∧ d1 = .int .i64 m ∧ d2 = .string s ∧ d3 = .int .i64 e ∧ d4 = .slice p (l : List Ty).length cap ∧
    M u.num = some (.mk k m s e l) ∧ TyIn wb [.int .i64 k, .int .i64 m, .string s, .int .i64 e, .slice p l.length cap] (.mk k m s e l) ∧ (Ty.mk k m s e l).shaped = true)
def One5 (d0 d1 d2 d3 d4 : Value) : Prop := d0.oneCell' = true ∧ d1.oneCell' = true ∧ d2.oneCell' = true ∧ d3.oneCell' = true ∧ d4.oneCell' = true
theorem heap_size_alloc (w : World) (o : Obj) : (w.alloc o).heap.size = w.heap.size + 1 := by simp
theorem follow_sv {wb w : World} {sp bM n : Nat} {M : Int → Option Ty} {f : Int → Ty} (h : Sv wb w sp bM n M f) {k m : Int} {s : ByteArray} {e : Int} {l : List Ty} {p : Option Addr} {cap : Nat} (hT : TyIn wb [.int .i64 k, .int .i64 m, .string s, .int .i64 e, .slice p l.length cap] (.mk k m s e l)) :
    Calls Try.prog 42 #[.pointer (some ⟨sp, 0, none⟩), .agg #[.int .i64 k, .int .i64 m, .string s, .int .i64 e, .slice p l.length cap]] w fun e' w' => Below w.heap.size w w' ∧
      ∃ d0 d1 d2 d3 d4 ok, e' = .returned (.tuple #[.agg #[d0, d1, d2, d3, d4], .bool ok]) ∧ One5 d0 d1 d2 d3 d4 ∧ Foll wb M (.mk k m s e l) d0 d1 d2 d3 d4 ok := by
  refine (follow_any wb w sp bM n M k m s e l p cap h.cell h.map (shaped_wf hT).2.1).mono ?_
  rintro e1 w1 ⟨hb1, ⟨rfl, hno⟩ | ⟨T, cs, hk, hm, rfl, hT1, hS1⟩⟩
  · exact ⟨hb1, _, _, _, _, _, false, rfl, ⟨rfl, rfl, rfl, rfl, rfl⟩, .inl ⟨rfl, hno⟩⟩
  · cases T with
    | mk k' n' s' e' l' =>
      obtain ⟨p', cap', rfl, _⟩ := hT1.elem
      exact ⟨hb1, _, _, _, _, _, true, rfl, ⟨rfl, rfl, rfl, rfl, rfl⟩, .inr ⟨rfl, hk, k', n', s', e', l', p', cap', rfl, rfl, rfl, rfl, rfl, hm, hT1, hS1⟩⟩
set_option maxHeartbeats 2000000 in
set_option maxRecDepth 100000 in
theorem top_any (wb w : World) (sp bM n : Nat) (M : Int → Option Ty) (f : Int → Ty) (k m : Int) (s : ByteArray) (e : Int) (l : List Ty) (p : Option Addr) (cap : Nat)
    (hS : Sv wb w sp bM n M f) (hT : TyIn wb [.int .i64 k, .int .i64 m, .string s, .int .i64 e, .slice p l.length cap] (.mk k m s e l)) (hsh : (Ty.mk k m s e l).shaped = true) :
    Calls Try.prog 31 #[.pointer (some ⟨sp, 0, none⟩), .agg #[.int .i64 k, .int .i64 m, .string s, .int .i64 e, .slice p l.length cap]] w fun e' w' =>
      ∃ k' m' s' e1 l' p' cap' M', e' = .returned (.agg #[.int .i64 k', .int .i64 m', .string s', .int .i64 e1, .slice p' (l' : List Ty).length cap']) ∧ TyIn wb [.int .i64 k', .int .i64 m', .string s', .int .i64 e1, .slice p' l'.length cap'] (.mk k' m' s' e1 l') ∧
        (Ty.mk k' m' s' e1 l').shaped = true ∧ Full M' (.mk k' m' s' e1 l') ((Ty.mk k m s e l).app f) ∧ (k' = 0 → M' m' = none) ∧ (∀ x, (M' x).isSome = (M x).isSome) ∧ Sv wb w' sp bM n M' f ∧ Kp [bM] w w' := by
  have HS : Hid (Sv wb w sp bM n M f) := hS
  have HT : Hid (TyIn wb [.int .i64 k, .int .i64 m, .string s, .int .i64 e, .slice p l.length cap] (.mk k m s e l)) := hT
  have Hsh : Hid ((Ty.mk k m s e l).shaped = true) := hsh
  obtain ⟨K, v, hc, hfv, hkv⟩ := (hS.agr.full (.mk k m s e l)).chain
  have Hc : Hid (Chain M K (.mk k m s e l) v) := hc
  have Hfv : Hid (Full M v ((Ty.mk k m s e l).app f)) := hfv
  have Hkv : Hid (v.kind = 0 → M v.num = none) := hkv
  clear hS hT hsh hc hfv hkv
  go_enter Try.func31, Try.ntmps31
  go_wp2_with fail
  have hb0 := (((Below.refl w.heap.size w).alloc (Nat.le_refl _) (Obj.cells #[Value.int IntKind.i64 k, Value.int IntKind.i64 m, Value.string s, Value.int IntKind.i64 e, Value.slice p l.length cap] 33)).alloc (by simp) (Obj.cells #[Value.int IntKind.i64 0, Value.int IntKind.i64 0, Value.string { data := #[] }, Value.int IntKind.i64 0, Value.slice none 0 0] 33)).alloc (by simp; omega) (Obj.cells #[Value.int IntKind.i64 k, Value.int IntKind.i64 m, Value.string s, Value.int IntKind.i64 e, Value.slice p l.length cap] 33)
  have hz0 : w.heap.size + 3 ≤ ((((w.alloc (Obj.cells #[Value.int IntKind.i64 k, Value.int IntKind.i64 m, Value.string s, Value.int IntKind.i64 e, Value.slice p l.length cap] 33)).alloc (Obj.cells #[Value.int IntKind.i64 0, Value.int IntKind.i64 0, Value.string { data := #[] }, Value.int IntKind.i64 0, Value.slice none 0 0] 33)).alloc (Obj.cells #[Value.int IntKind.i64 k, Value.int IntKind.i64 m, Value.string s, Value.int IntKind.i64 e, Value.slice p l.length cap] 33)).heap.size) := by simp
  have hx1 := (Box.new w (.int .i64 k) (.int .i64 m) (.string s) (.int .i64 e) (.slice p l.length cap)).kp (Kp.alloc [] _ (Obj.cells #[Value.int IntKind.i64 0, Value.int IntKind.i64 0, Value.string { data := #[] }, Value.int IntKind.i64 0, Value.slice none 0 0] 33)) (by simp) |>.kp (Kp.alloc [] _ (Obj.cells #[Value.int IntKind.i64 k, Value.int IntKind.i64 m, Value.string s, Value.int IntKind.i64 e, Value.slice p l.length cap] 33)) (by simp)
  have hx2 := (Box.new (w.alloc (Obj.cells #[Value.int IntKind.i64 k, Value.int IntKind.i64 m, Value.string s, Value.int IntKind.i64 e, Value.slice p l.length cap] 33)) (.int .i64 0) (.int .i64 0) (.string { data := #[] }) (.int .i64 0) (.slice none 0 0)).kp (Kp.alloc [] _ (Obj.cells #[Value.int IntKind.i64 k, Value.int IntKind.i64 m, Value.string s, Value.int IntKind.i64 e, Value.slice p l.length cap] 33)) (by simp)
  have hx3 := Box.new ((w.alloc (Obj.cells #[Value.int IntKind.i64 k, Value.int IntKind.i64 m, Value.string s, Value.int IntKind.i64 e, Value.slice p l.length cap] 33)).alloc (Obj.cells #[Value.int IntKind.i64 0, Value.int IntKind.i64 0, Value.string { data := #[] }, Value.int IntKind.i64 0, Value.slice none 0 0] 33)) (.int .i64 k) (.int .i64 m) (.string s) (.int .i64 e) (.slice p l.length cap)
  rw [heap_size_alloc] at hx2
  rw [heap_size_alloc, heap_size_alloc] at hx3
  generalize ((w.alloc (Obj.cells #[Value.int IntKind.i64 k, Value.int IntKind.i64 m, Value.string s, Value.int IntKind.i64 e, Value.slice p l.length cap] 33)).alloc (Obj.cells #[Value.int IntKind.i64 0, Value.int IntKind.i64 0, Value.string { data := #[] }, Value.int IntKind.i64 0, Value.slice none 0 0] 33)).alloc (Obj.cells #[Value.int IntKind.i64 k, Value.int IntKind.i64 m, Value.string s, Value.int IntKind.i64 e, Value.slice p l.length cap] 33) = w0 at *
  refine (follow_sv (HS.out.below hb0) HT.out).mono ?_
  rintro e1 w1 ⟨hb1, d0, d1, d2, d3, d4, ok, rfl, hone, hfo⟩
  have Hone : Hid (One5 d0 d1 d2 d3 d4) := hone
  have Hfo : Hid (Foll wb M (.mk k m s e l) d0 d1 d2 d3 d4 ok) := hfo
  clear hone hfo
  go_wp2_with (refine wpList_store5 rfl _ _ rfl rfl _ rfl rfl (Box.new _ _ _ _ _ _) Hone.out ?_; intro w2 hB2 hk2)
  have hkp : Kp [w1.heap.size] w0 w2 := (Kp.of_below hb1).trans ((Kp.alloc _ _ _).trans hk2)
  have hlt1 := hb1.size
  have hbw : Below w.heap.size w w2 := (hb0.trans ((hkp.below (B := w.heap.size) (by omega) (by simp; omega)).mono (Nat.le_refl _)))
  have hbw0 : Below w0.heap.size w0 w2 := hkp.below (Nat.le_refl _) (by simp; exact hlt1)
  have hy1 : TyBox wb w2 w.heap.size (.mk k m s e l) := (TyBox.mk k m s e l p cap hx1 HT.out Hsh.out).kp (X := []) (Kp.of_below hbw0) (by simp)
  have hy2 := hx2.kp (X := []) (Kp.of_below hbw0) (by simp)
  have hy3 : TyBox wb w2 (w.heap.size + 1 + 1) (.mk k m s e l) := (TyBox.mk k m s e l p cap hx3 HT.out Hsh.out).kp (X := []) (Kp.of_below hbw0) (by simp)
  have hN : w.heap.size + 1 + 1 < w1.heap.size := by omega
  generalize hNN : w1.heap.size = N0 at *
  clear hx1 hx2 hx3 hb0 hz0 hb1 hk2 hkp hbw0 hlt1 hNN w0 w1
  go_loopg [6, 7] K (fun g pv okv wr => ∃ (u : Ty) (N : Nat) (d0 d1 d2 d3 d4 : Value) (ok : Bool), pv = .pointer (some ⟨N, 0, none⟩) ∧ okv = .bool ok ∧ w.heap.size + 1 + 1 < N ∧ Hid (TyBox wb wr w.heap.size (.mk k m s e l) ∧ Box wr (w.heap.size + 1) (.int .i64 0) (.int .i64 0) (.string { data := #[] }) (.int .i64 0) (.slice none 0 0) ∧ TyBox wb wr (w.heap.size + 1 + 1) u ∧ Box wr N d0 d1 d2 d3 d4 ∧ Foll wb M u d0 d1 d2 d3 d4 ok ∧ Chain M g u v ∧ Below w.heap.size w wr))
  case atStart => exact ⟨_, N0, d0, d1, d2, d3, d4, ok, rfl, rfl, hN, hy1, hy2, hy3, hB2, Hfo.out, Hc.out, hbw⟩
  case round =>
    clear hy1 hy2 hy3 Hfo hB2 hN hbw Hone
    obtain ⟨u, N, d0, d1, d2, d3, d4, ok, rfl, rfl, hN, HR⟩ := hrel
    obtain ⟨r1, r2, r3, r4, r5, r6, r7⟩ := HR.out
    clear HR
    rcases r5 with ⟨rfl, hno⟩ | ⟨rfl, hu0, k1, m1, s1, e1, l1, p1, cap1, rfl, rfl, rfl, rfl, rfl, hum, hut, hus⟩
    · obtain rfl : u = v := by
        cases r6 with
        | here _ _ => rfl
        | step j _ x _ g0 g1 g2 => exact absurd ⟨g0, by rw [g1]; rfl⟩ hno
      cases r1 with
      | mk _ _ _ _ _ p9 cap9 hT9 hTt9 hTs9 =>
      obtain ⟨n0, n1, n2, n3, n4⟩ := hT9.cells
      have RT0 : Hid (Box wr w.heap.size (.int .i64 k) (.int .i64 m) (.string s) (.int .i64 e) (.slice p9 l.length cap9)) := hT9
      have R2 : Hid (Box wr (w.heap.size + 1) (.int .i64 0) (.int .i64 0) (.string { data := #[] }) (.int .i64 0) (.slice none 0 0)) := r2
      have R3 : Hid (TyBox wb wr (w.heap.size + 1 + 1) u) := r3
      have RB : Hid (Below w.heap.size w wr) := r7
      have RTt : Hid (TyIn wb [.int .i64 k, .int .i64 m, .string s, .int .i64 e, .slice p9 l.length cap9] (.mk k m s e l)) := hTt9
      have R3lt : w.heap.size + 1 + 1 < wr.heap.size := r3.lt
      clear r2 r3 r4 r6 r7 hT9 hTt9 hTs9 hno
      go_wp2_with fail
      refine (follow_sv (HS.out.below RB.out) RTt.out).mono ?_
      rintro e1 w1 ⟨hb1, c0, c1, c2, c3, c4, ok, rfl, hone, hfo⟩
      have Hone : Hid (One5 c0 c1 c2 c3 c4) := hone
      have Hfo : Hid (Foll wb M (.mk k m s e l) c0 c1 c2 c3 c4 ok) := hfo
      clear hone hfo n0 n1 n2 n3 n4
      go_wp2_with (refine wpList_store5 rfl _ _ rfl rfl _ rfl rfl (Box.new _ _ _ _ _ _) Hone.out ?_; intro w2 hB2 hk2)
      have hlt1 := hb1.size
      have hkp : Kp [w1.heap.size] wr w2 := (Kp.of_below hb1).trans ((Kp.alloc _ _ _).trans hk2)
      have hbw : Below w.heap.size w w2 := RB.out.trans (hkp.below RB.out.size (by simp; have := RB.out.size; omega))
      have hbr : Below wr.heap.size wr w2 := hkp.below (Nat.le_refl _) (by simp; omega)
      have hy1 : TyBox wb w2 w.heap.size (.mk k m s e l) := (TyBox.mk k m s e l p9 cap9 RT0.out RTt.out Hsh.out).kp (X := []) (Kp.of_below hbr) (by simp)
      have hy2 := R2.out.kp (X := []) (Kp.of_below hbr) (by simp)
      have hy3 := TyBox.kp (X := []) R3.out (Kp.of_below hbr) (by simp)
      have hsv := HS.out.below hbw
      have hkw : Kp [bM] w w2 := Kp.of_below hbw
      have hN2 : w.heap.size + 1 + 1 < w1.heap.size := by omega
      have hfull := HS.out.agr.full (.mk k m s e l)
      have Hlt := HS.out.lt
      have Hhi := HS.out.hi
      generalize hX : (Ty.mk k m s e l).app f = X at *
      generalize hNN : w1.heap.size = N0 at *
      clear hk2 hkp hbr hbw hb1 hlt1 hNN w1 RT0 R2 R3 RB R3lt
      go_loopg [8, 9] K (fun g pv okv wr => ∃ (y : Ty) (N : Nat) (d0 d1 d2 d3 d4 : Value) (ok : Bool) (Mr : Int → Option Ty), pv = .pointer (some ⟨N, 0, none⟩) ∧ okv = .bool ok ∧ w.heap.size + 1 + 1 < N ∧ Hid (TyBox wb wr w.heap.size y ∧ Box wr (w.heap.size + 1) (.int .i64 0) (.int .i64 0) (.string { data := #[] }) (.int .i64 0) (.slice none 0 0) ∧ TyBox wb wr (w.heap.size + 1 + 1) u ∧ Box wr N d0 d1 d2 d3 d4 ∧ Foll wb Mr y d0 d1 d2 d3 d4 ok ∧ Chain Mr g y u ∧ Full Mr y X ∧ Full Mr u X ∧ (u.kind = 0 → Mr u.num = none) ∧ Sv wb wr sp bM n Mr f ∧ Kp [bM] w wr ∧ ∀ x, (Mr x).isSome = (M x).isSome))
      case atStart => exact ⟨_, N0, c0, c1, c2, c3, c4, ok, M, rfl, rfl, hN2, hy1, hy2, hy3, hB2, Hfo.out, Hc.out, hfull, Hfv.out, Hkv.out, hsv, hkw, fun _ => rfl⟩
      case round =>
        clear hy1 hy2 hy3 Hfo hB2 hN2 Hone hsv hkw hfull
        obtain ⟨y, N, d0, d1, d2, d3, d4, ok, Mr, rfl, rfl, hN, HR⟩ := hrel
        obtain ⟨r1, r2, r3, r4, r5, r6, r7, r8, r9, r10, r11, r12⟩ := HR.out
        clear HR
        cases r3 with
        | mk ku mu su eu lu pu capu hE hEt hEs =>
        obtain ⟨n0, n1, n2, n3, n4⟩ := hE.cells
        have RE : Hid (Box wr (w.heap.size + 1 + 1) (.int .i64 ku) (.int .i64 mu) (.string su) (.int .i64 eu) (.slice pu lu.length capu)) := hE
        have REt : Hid (TyIn wb [.int .i64 ku, .int .i64 mu, .string su, .int .i64 eu, .slice pu lu.length capu] (.mk ku mu su eu lu)) := hEt
        have REs : Hid ((Ty.mk ku mu su eu lu).shaped = true) := hEs
        have R2 : Hid (Box wr (w.heap.size + 1) (.int .i64 0) (.int .i64 0) (.string { data := #[] }) (.int .i64 0) (.slice none 0 0)) := r2
        have R8 : Hid (Full Mr (.mk ku mu su eu lu) X) := r8
        have R9 : Hid (ku = 0 → Mr mu = none) := r9
        have R10 : Hid (Sv wb wr sp bM n Mr f) := r10
        have R11 : Hid (Kp [bM] w wr) := r11
        have R12 : Hid (∀ x, (Mr x).isSome = (M x).isSome) := r12
        clear hE hEt hEs r2 r8 r9 r10 r11 r12
        rcases r5 with ⟨rfl, hno⟩ | ⟨rfl, hu0, k1, m1, s1, e1, l1, p1, cap1, rfl, rfl, rfl, rfl, rfl, hum, hut, hus⟩
        · clear hno r1 r4 r6 r7
          go_wp2_with (refine wpList_store5 rfl _ _ rfl rfl _ rfl rfl R2.out (one5 _ _ _ _ _ _ _) ?_; intro w6 hB6 hk6)
          obtain ⟨q0, q1, q2, q3, q4⟩ := hB6.cells
          refine bodyPost_ret (v := .agg #[.int .i64 ku, .int .i64 mu, .string su, .int .i64 eu, .slice pu lu.length capu]) (by simp [results, Try.results31, go_sem, q0, q1, q2, q3, q4]) rfl ⟨ku, mu, su, eu, lu, pu, capu, Mr, rfl, REt.out, REs.out, by rw [hX]; exact R8.out, R9.out, R12.out, R10.out.kp hk6 ⟨?_, ?_, ?_⟩, R11.out.then hk6 ?_⟩
          · simp; omega
          · simp; omega
          · simp; omega
          · simp
        · cases r1 with
          | mk k0 m0 s0 e0 l0 p0 cap0 hT hTt hTs =>
          have hchain : ∃ j, gk = j + 1 ∧ Chain Mr j (.mk k1 m1 s1 e1 l1) (.mk ku mu su eu lu) := by
            cases r6 with
            | here _ hh => exact absurd ⟨hu0, by rw [hum]; rfl⟩ hh
            | step j _ x _ g0 g1 g2 =>
              rw [hum] at g1
              cases g1
              exact ⟨j, rfl, g2⟩
          obtain ⟨j, rfl, hch⟩ := hchain
          have hum' : Mr m0 = some (.mk k1 m1 s1 e1 l1) := hum
          have hfx : Full Mr (.mk k1 m1 s1 e1 l1) X := by
            cases r7 with
            | bound _ _ _ _ _ U _ hk hu h => rw [hum'] at hu; cases hu; exact h
            | free _ _ _ _ _ hk hu => rw [hum'] at hu; cases hu
            | args _ _ _ _ _ r hk _ _ => exact absurd hu0 hk
          have hch' : Chain (upd Mr m0 (some (.mk ku mu su eu lu))) j (.mk k1 m1 s1 e1 l1) (.mk ku mu su eu lu) := r6.shorter hu0 (by show (Mr m0).isSome = true; rw [hum']; rfl) _ hch (Nat.le_refl _)
          have hfx' := Full.shorter hum' hfx R8.out R9.out _ (Nat.le_refl _) hfx
          have hfu' := Full.shorter hum' hfx R8.out R9.out _ (Nat.le_refl _) R8.out
          have hagr' := R10.out.agr.shorter hum' hfx R8.out R9.out
          have hfree' : ku = 0 → upd Mr m0 (some (.mk ku mu su eu lu)) mu = none := by
            intro hk
            rw [upd_other _ _ (by rintro rfl; rw [R9.out hk] at hum'; cases hum')]
            exact R9.out hk
          have hdom' : ∀ x, (upd Mr m0 (some (.mk ku mu su eu lu)) x).isSome = (M x).isSome := by
            intro x
            rw [← R12.out x]
            by_cases hx : x = m0
            · subst hx; rw [upd_same, hum']; rfl
            · rw [upd_other _ _ hx]
          obtain ⟨w7, hrun, hst7, hk7⟩ := R10.out.drew.map.store R10.out.room (shaped_wf hTt).2.1 REt.out REs.out
          rw [hum', if_pos (by rfl)] at hst7
          have hk7' : Kp [bM] wr w7 := (Kp.refl _ _).drew.trans hk7
          have hsv7 : Sv wb w7 sp bM n (upd Mr m0 (some (.mk ku mu su eu lu))) f := ⟨R10.out.base.trans (hk7'.below R10.out.base.size (by simp; omega)), hk7'.cell R10.out.cell (by simp; omega), hst7, hagr', R10.out.hi, R10.out.room⟩
          have hcs := R10.out.cell
          obtain ⟨y0, y1, y2, y3, y4⟩ := hT.cells
          have RT7 : Hid (Box w7 w.heap.size (.int .i64 k0) (.int .i64 m0) (.string s0) (.int .i64 e0) (.slice p0 l0.length cap0)) := hT.kp hk7' (by simp; omega)
          have RN7 : Box w7 N (.int .i64 k1) (.int .i64 m1) (.string s1) (.int .i64 e1) (.slice p1 l1.length cap1) := r4.kp hk7' (by simp; omega)
          obtain ⟨z0, z1, z2, z3, z4⟩ := RN7.cells
          have RN : Hid _ := RN7
          have R27 : Hid (Box w7 (w.heap.size + 1) (.int .i64 0) (.int .i64 0) (.string { data := #[] }) (.int .i64 0) (.slice none 0 0)) := R2.out.kp hk7' (by simp; omega)
          have RE7 : Hid (Box w7 (w.heap.size + 1 + 1) (.int .i64 ku) (.int .i64 mu) (.string su) (.int .i64 eu) (.slice pu lu.length capu)) := RE.out.kp hk7' (by simp; omega)
          have RK7 : Hid (Kp [bM] w w7) := R11.out.trans hk7'
          have RS7 : Hid (Sv wb w7 sp bM n (upd Mr m0 (some (.mk ku mu su eu lu))) f) := hsv7
          have Hch : Hid (Chain (upd Mr m0 (some (.mk ku mu su eu lu))) j (.mk k1 m1 s1 e1 l1) (.mk ku mu su eu lu)) := hch'
          have Hfx : Hid (Full (upd Mr m0 (some (.mk ku mu su eu lu))) (.mk k1 m1 s1 e1 l1) X) := hfx'
          have Hfu : Hid (Full (upd Mr m0 (some (.mk ku mu su eu lu))) (.mk ku mu su eu lu) X) := hfu'
          have Hfree : Hid (ku = 0 → upd Mr m0 (some (.mk ku mu su eu lu)) mu = none) := hfree'
          have Hdom : Hid (∀ x, (upd Mr m0 (some (.mk ku mu su eu lu)) x).isSome = (M x).isSome) := hdom'
          have HTx : Hid (TyIn wb [.int .i64 k1, .int .i64 m1, .string s1, .int .i64 e1, .slice p1 l1.length cap1] (.mk k1 m1 s1 e1 l1)) := hut
          have HSx : Hid ((Ty.mk k1 m1 s1 e1 l1).shaped = true) := hus
          clear hch hch' hfx hfx' hfu' hfree' hdom' hut hus hsv7 hk7' RN7 hT r4 RE R2 hagr' hst7 hk7 hum hum' hTt hTs hu0 r6 r7 R8 R9 R10 R11 R12
          go_wp2_with fail
          go_region
          go_wp2_with (refine wpList_store5 rfl _ _ rfl rfl _ rfl rfl RT7.out (one5 _ _ _ _ _ _ _) ?_; intro w3 hE3 hk3; obtain ⟨x0, x1, x2, x3, x4⟩ := (hE3.kp (Kp.alloc [] w3 (Obj.cells #[Value.int IntKind.i64 k1, Value.int IntKind.i64 m1, Value.string s1, Value.int IntKind.i64 e1, Value.slice p1 l1.length cap1] 33)) (by simp)).cells; obtain ⟨v0, v1, v2, v3, v4⟩ := (Box.kp RN.out hk3 (by simp; omega)).cells)
          have hE4 : w.heap.size + 1 + 1 < w3.heap.size := (RE7.out.kp hk3 (by simp; omega)).lt
          have hNN := Box.new w3 (.int .i64 k1) (.int .i64 m1) (.string s1) (.int .i64 e1) (.slice p1 l1.length cap1)
          have hE5 := hE3.kp (Kp.alloc [] w3 (Obj.cells #[Value.int IntKind.i64 k1, Value.int IntKind.i64 m1, Value.string s1, Value.int IntKind.i64 e1, Value.slice p1 l1.length cap1] 33)) (by simp)
          have hkq : Kp [w.heap.size] w7 (w3.alloc (Obj.cells #[Value.int IntKind.i64 k1, Value.int IntKind.i64 m1, Value.string s1, Value.int IntKind.i64 e1, Value.slice p1 l1.length cap1] 33)) := hk3.trans (Kp.alloc _ _ _)
          generalize hN3 : w3.heap.size = N3 at *
          generalize w3.alloc (Obj.cells #[Value.int IntKind.i64 k1, Value.int IntKind.i64 m1, Value.string s1, Value.int IntKind.i64 e1, Value.slice p1 l1.length cap1] 33) = w4 at *
          have hwb := HS.out.base.size
          have hsv4 := RS7.out.kp hkq ⟨by simp; omega, by simp; omega, by simp; omega⟩
          refine (follow_sv hsv4 HTx.out).mono ?_
          rintro e9 w5 ⟨hb5, f0, f1, f2, f3, f4, ok5, rfl, hone5, hfo5⟩
          have Hone : Hid (One5 f0 f1 f2 f3 f4) := hone5
          have Hfo : Hid (Foll wb (upd Mr m0 (some (.mk ku mu su eu lu))) (.mk k1 m1 s1 e1 l1) f0 f1 f2 f3 f4 ok5) := hfo5
          have HN5 : Hid (Box w5 N3 (.int .i64 k1) (.int .i64 m1) (.string s1) (.int .i64 e1) (.slice p1 l1.length cap1)) := hNN.kp (X := []) (Kp.of_below hb5) (by simp)
          have HE5 : Hid (Box w5 w.heap.size (.int .i64 k1) (.int .i64 m1) (.string s1) (.int .i64 e1) (.slice p1 l1.length cap1)) := hE5.kp (X := []) (Kp.of_below hb5) (by simp)
          have HK5 : Hid (Kp [w.heap.size] w7 w5) := hkq.trans (Kp.of_below hb5)
          clear hone5 hfo5 hNN hE5 hb5 hkq x0 x1 x2 x3 x4 y0 y1 y2 y3 y4 n0 n1 n2 n3 n4 z0 z1 z2 z3 z4 v0 v1 v2 v3 v4 hE3 hk3 hN3 hsv4 w3 w4 hcs hrun
          go_wp2_with (refine wpList_store5 rfl _ _ rfl rfl _ rfl rfl HN5.out Hone.out ?_; intro w6 hB6 hk6)
          have hk76 : Kp [w.heap.size, N3] w7 w6 := (HK5.out.mono (by simp)).trans (hk6.mono (by simp))
          have g1 : TyBox wb w6 w.heap.size (.mk k1 m1 s1 e1 l1) := (TyBox.mk k1 m1 s1 e1 l1 p1 cap1 HE5.out HTx.out HSx.out).kp hk6 (by simp; omega)
          have g2 := R27.out.kp hk76 (by simp; omega)
          have g3 : TyBox wb w6 (w.heap.size + 1 + 1) (.mk ku mu su eu lu) := (TyBox.mk ku mu su eu lu pu capu RE7.out REt.out REs.out).kp hk76 (by simp; omega)
          have g4 := RS7.out.kp hk76 ⟨by simp; omega, by simp; omega, by simp; omega⟩
          have g5 : Kp [bM] w w6 := RK7.out.then hk76 (by simp; omega)
          go_wp2
          go_roundg j
          case measure => omega
          case rel => exact ⟨_, N3, f0, f1, f2, f3, f4, ok5, _, rfl, rfl, hE4, g1, g2, g3, hB6, Hfo.out, Hch.out, Hfx.out, Hfu.out, Hfree.out, g4, g5, Hdom.out⟩
    · cases r3 with
      | mk k0 m0 s0 e0 l0 p0 cap0 hE hEt hEs =>
        obtain ⟨n0, n1, n2, n3, n4⟩ := r4.cells
        have Hum : Hid (M m0 = some (Ty.mk k1 m1 s1 e1 l1)) := hum
        have Hu0 : Hid (k0 = 0) := hu0
        have R1 : Hid _ := r1
        have R2 : Hid (Box wr (w.heap.size + 1) (.int .i64 0) (.int .i64 0) (.string { data := #[] }) (.int .i64 0) (.slice none 0 0)) := r2
        have R4 : Hid (Box wr N (.int .i64 k1) (.int .i64 m1) (.string s1) (.int .i64 e1) (.slice p1 l1.length cap1)) := r4
        have RE : Hid (Box wr (w.heap.size + 1 + 1) (.int .i64 k0) (.int .i64 m0) (.string s0) (.int .i64 e0) (.slice p0 l0.length cap0)) := hE
        have RT : Hid (TyIn wb [.int .i64 k1, .int .i64 m1, .string s1, .int .i64 e1, .slice p1 l1.length cap1] (.mk k1 m1 s1 e1 l1)) := hut
        have RS : Hid ((Ty.mk k1 m1 s1 e1 l1).shaped = true) := hus
        have RC : Hid (Chain M gk (.mk k0 m0 s0 e0 l0) v) := r6
        have RB : Hid (Below w.heap.size w wr) := r7
        clear hum hu0 r1 r2 r4 hE hut hus r6 r7 hEt hEs
        go_wp2_with (refine wpList_store5 rfl _ _ rfl rfl _ rfl rfl RE.out (one5 _ _ _ _ _ _ _) ?_; intro w3 hE3 hk3; obtain ⟨x0, x1, x2, x3, x4⟩ := (hE3.kp (Kp.alloc [] w3 (Obj.cells #[Value.int IntKind.i64 k1, Value.int IntKind.i64 m1, Value.string s1, Value.int IntKind.i64 e1, Value.slice p1 l1.length cap1] 33)) (by simp)).cells; obtain ⟨y0, y1, y2, y3, y4⟩ := (R4.out.kp hk3 (by simp; omega)).cells)
        have hE4 := hE3.lt
        have hNN := Box.new w3 (.int .i64 k1) (.int .i64 m1) (.string s1) (.int .i64 e1) (.slice p1 l1.length cap1)
        have hE5 := hE3.kp (Kp.alloc [] w3 (Obj.cells #[Value.int IntKind.i64 k1, Value.int IntKind.i64 m1, Value.string s1, Value.int IntKind.i64 e1, Value.slice p1 l1.length cap1] 33)) (by simp)
        have hkq : Kp [w.heap.size + 1 + 1] wr (w3.alloc (Obj.cells #[Value.int IntKind.i64 k1, Value.int IntKind.i64 m1, Value.string s1, Value.int IntKind.i64 e1, Value.slice p1 l1.length cap1] 33)) := hk3.trans (Kp.alloc _ _ _)
        generalize hN3 : w3.heap.size = N3 at *
        generalize w3.alloc (Obj.cells #[Value.int IntKind.i64 k1, Value.int IntKind.i64 m1, Value.string s1, Value.int IntKind.i64 e1, Value.slice p1 l1.length cap1] 33) = w4 at *
        have hb4 : Below w.heap.size w w4 := RB.out.trans (hkq.below RB.out.size (by simp; omega))
        refine (follow_sv (HS.out.below hb4) RT.out).mono ?_
        rintro e9 w5 ⟨hb5, f0, f1, f2, f3, f4, ok5, rfl, hone5, hfo5⟩
        have Hone : Hid (One5 f0 f1 f2 f3 f4) := hone5
        have Hfo : Hid (Foll wb M (.mk k1 m1 s1 e1 l1) f0 f1 f2 f3 f4 ok5) := hfo5
        have HN5 : Hid (Box w5 N3 (.int .i64 k1) (.int .i64 m1) (.string s1) (.int .i64 e1) (.slice p1 l1.length cap1)) := hNN.kp (X := []) (Kp.of_below hb5) (by simp)
        have HE5 : Hid (Box w5 (w.heap.size + 1 + 1) (.int .i64 k1) (.int .i64 m1) (.string s1) (.int .i64 e1) (.slice p1 l1.length cap1)) := hE5.kp (X := []) (Kp.of_below hb5) (by simp)
        have HK5 : Hid (Kp [w.heap.size + 1 + 1] wr w5) := hkq.trans (Kp.of_below hb5)
        clear hone5 hfo5 hNN hE5 hb5 hb4 hkq x0 x1 x2 x3 x4 y0 y1 y2 y3 y4 n0 n1 n2 n3 n4 hE3 hk3 hN3 w3 w4
        go_wp2_with (refine wpList_store5 rfl _ _ rfl rfl _ rfl rfl HN5.out Hone.out ?_; intro w6 hB6 hk6)
        have hchain : ∃ j, gk = j + 1 ∧ Chain M j (.mk k1 m1 s1 e1 l1) v := by
          have h := RC.out
          have hm := Hum.out
          cases h with
          | here _ hh => exact absurd ⟨Hu0.out, by show (M m0).isSome = true; rw [hm]; rfl⟩ hh
          | step j _ x _ g0 g1 g2 =>
            have g1 : M m0 = some x := g1
            rw [hm] at g1
            cases g1
            exact ⟨j, rfl, g2⟩
        obtain ⟨j, hj, hch⟩ := hchain
        have hbb : Below w.heap.size w w6 := (RB.out.trans (HK5.out.below RB.out.size (by simp; omega))).trans (hk6.below (Nat.le_trans RB.out.size HK5.out.size) (by simp; omega))
        have g1 := (TyBox.kp R1.out HK5.out (by simp; omega)).kp hk6 (by simp; omega)
        have g2 := (R2.out.kp HK5.out (by simp)).kp hk6 (by simp; omega)
        have g3 : TyBox wb w6 (w.heap.size + 1 + 1) (.mk k1 m1 s1 e1 l1) := (TyBox.mk k1 m1 s1 e1 l1 p1 cap1 HE5.out RT.out RS.out).kp hk6 (by simp; omega)
        go_wp2
        go_roundg j
        case measure => omega
        case rel => exact ⟨_, N3, f0, f1, f2, f3, f4, ok5, rfl, rfl, hE4, g1, g2, g3, hB6, Hfo.out, hch, hbb⟩
end Go.Proofs.Ytfpdiccghbmccab
