/-
  The document's own solver: how many parts a type has with its variables replaced (Great).
-/
import Derived.Test.YtbgpjaniohpfaaaR1
import Derived.Test.YtbgpjaniohpfaaaP1
namespace Go.Proofs.Ytbgpjaniohpfaaa
open Go.RowKit Go.Deep
/-- What a type on top says of the whole. -/
structure OnTop (f : Int → Ty) (k m : Int) (s : ByteArray) (e : Int) (l : List Ty) (X : Ty) : Prop where
  var : k = 0 → l = [] ∧ X = .vr m
  arg : ¬ k = 0 → X = .mk k m s e (l.map (Ty.app f))
theorem OnTop.of {M : Int → Option Ty} {f : Int → Ty} {k m : Int} {s : ByteArray} {e : Int} {l : List Ty} {X : Ty} (ha : Agr M f) (h : Full M (.mk k m s e l) X) (hf : k = 0 → M m = none) (hs : (Ty.mk k m s e l).okm noMarks) : OnTop f k m s e l X := by
  rcases Full.top_parts ha h hf hs with ⟨h1, h2, h3⟩ | ⟨h1, h2⟩
  · exact ⟨fun _ => ⟨h2, h3⟩, fun h => absurd h1 h⟩
  · exact ⟨fun h => absurd h h1, fun _ => h2⟩
theorem OnTop.parts {f : Int → Ty} {k m : Int} {s : ByteArray} {e : Int} {l : List Ty} {X : Ty} (h : OnTop f k m s e l X) (most : Int) : X.parts most = Ty.partsL (l.map (Ty.app f)) 1 most := by
  by_cases hk : k = 0
  · obtain ⟨rfl, rfl⟩ := h.var hk
    unfold Ty.vr Ty.parts
    rfl
  · rw [h.arg hk]
    unfold Ty.parts
    rfl
theorem OnTop.less {f : Int → Ty} {k m : Int} {s : ByteArray} {e : Int} {l : List Ty} {X : Ty} (h : OnTop f k m s e l X) (i : Nat) (hi : i < l.length) : ((l[i]'hi).app f).count < X.count := by
  by_cases hk : k = 0
  · obtain ⟨rfl, rfl⟩ := h.var hk
    exact absurd hi (Nat.not_lt_zero _)
  · rw [h.arg hk]
    have := Ty.count_arg (k := k) (n := m) (s := s) (e := e) (l := l.map (Ty.app f)) i (by simpa using hi)
    rw [List.getElem_map] at this
    exact this
set_option maxHeartbeats 4000000 in
set_option maxRecDepth 100000 in
theorem greatR_any (wb : World) (sp bM bQ n nq : Nat) (M : Int → Option Ty) (f : Int → Ty) (q : Int → Int) (V : List Int) : ∀ (N : Nat) (w : World) (k m : Int) (s : ByteArray) (e : Int) (l : List Ty) (p : Option Addr) (cap : Nat) (most : Int), ((Ty.mk k m s e l).app f).count ≤ N →
    Rq wb w sp bM bQ n nq M f q V → TyIn wb [.int .i64 k, .int .i64 m, .string s, .int .i64 e, .slice p l.length cap] (.mk k m s e l) → (Ty.mk k m s e l).okm noMarks → 0 ≤ most → most ≤ 400 →
    Calls Try.prog 26 #[.pointer (some ⟨sp, 0, none⟩), .agg #[.int .i64 k, .int .i64 m, .string s, .int .i64 e, .slice p l.length cap], .int .i64 most] w fun e' w' => e' = .returned (.int .i64 (((Ty.mk k m s e l).app f).parts most)) ∧ Below w.heap.size w w' := by
  intro N
  induction N with
  | zero => intro w k m s e l p cap most hc; have := Full.count_pos ((Ty.mk k m s e l).app f); omega
  | succ N ih =>
    intro w k m s e l p cap most hcount hS hT hsh h0 h1
    have hb0 := (Below.refl w.heap.size w).alloc (Nat.le_refl _) (Obj.cells #[Value.int IntKind.i64 k, Value.int IntKind.i64 m, Value.string s, Value.int IntKind.i64 e, Value.slice p l.length cap] 33)
    have hx0 := Box.new w (.int .i64 k) (.int .i64 m) (.string s) (.int .i64 e) (.slice p l.length cap)
    have hcall := topR_any wb _ sp bM bQ n nq M f q V k m s e l p cap (hS.below hb0) hT hsh
    have Hcall : Hid _ := hcall
    have HS : Hid (Rq wb w sp bM bQ n nq M f q V) := hS
    have Hb0 : Hid _ := hb0
    have Hx0 : Hid _ := hx0
    have Hih : Hid _ := ih
    have Hcount : Hid (((Ty.mk k m s e l).app f).count ≤ N + 1) := hcount
    have hwbw := hS.sv.base.size
    clear hcall hb0 hx0 ih hT hsh hS hcount
    generalize (Ty.mk k m s e l).app f = X at *
    obtain ⟨R, hR⟩ : ∃ R, R = X.parts most := ⟨_, rfl⟩
    rw [← hR]
    have HR0 : Hid (R = X.parts most) := hR
    clear hR
    go_enter Try.func26, Try.ntmps26
    go_wp2_with fail
    refine Calls.mono Hcall.out ?_
    rintro e1 w1 hp
    cases hp with
    | mk k' m' s' e' l' p' cap' he ht hs hf hu hb hq9 =>
    subst he
    clear hq9
    have hX := OnTop.of HS.out.sv.agr hf hu hs
    have hBx := Box.kp (X := []) Hx0.out (Kp.of_below hb) (by simp)
    have hb1 : Below w.heap.size w w1 := Below.trans Hb0.out (hb.mono (by simp))
    obtain ⟨pe, ce, hcs, hl1, hl2, hel⟩ := ht.elem
    have Hel : Hid _ := hel
    have HX : Hid (OnTop f k' m' s' e' l' X) := hX
    have hshA : ∀ i (hi : i < l'.length), (l'[i]'hi).okm noMarks := fun i hi => okm_arg hs i hi
    have HshA : Hid _ := hshA
    have hpe : pe = p' := by simpa using (show p' = pe ∧ cap' = ce by simpa using hcs).1.symm
    subst hpe
    clear hcs hel hX hf hu hs ht hb Hcall Hx0 Hb0 hshA
    unfold maxLen at hl1
    go_wp2_with (refine wpList_store5 rfl _ _ rfl rfl _ rfl rfl hBx (one5 _ _ _ _ _ _ _) ?_; intro w3 hB3 hk3)
    have hb3 : Below w.heap.size w w3 := hb1.trans (hk3.below hb1.size (by simp))
    have hz3 := hB3.lt
    obtain ⟨_, _, _, _, hc4⟩ := hB3.cells
    have Hc4 : Hid (w3.cell? ⟨w.heap.size, 4, none⟩ = some (.slice pe l'.length cap')) := hc4
    have HR : Hid (R = Ty.partsL ((l'.map (Ty.app f)).drop 0) 1 most) := HR0.out.trans (HX.out.parts most)
    clear HR0
    clear hc4 hB3 hk3 hb1 hBx
    go_loopw [7, 8] (fun a b wr => ∃ (g : Int) (i : Nat), a = .int .i64 g ∧ b = .int .i64 i ∧ 1 ≤ g ∧ g ≤ most + 1 ∧ i ≤ l'.length ∧ Below w3.heap.size w3 wr ∧ Hid (R = Ty.partsL ((l'.map (Ty.app f)).drop i) g most)) (fun _ b _ => l'.length - (intOf b).toNat)
    case atStart => exact ⟨1, 0, rfl, rfl, by omega, by omega, by omega, Below.refl _ _, HR.out⟩
    case round =>
      clear HR
      rename_i wr
      obtain ⟨g, i, rfl, rfl, hm1, hm2, hi1, hbe, Hs⟩ := hrel
      have hb : Below w.heap.size w wr := hb3.trans (hbe.mono (Nat.le_of_lt hz3))
      have hc4 : wr.cell? ⟨w.heap.size, 4, none⟩ = some (.slice pe l'.length cap') := (hbe.cell (p := ⟨w.heap.size, 4, none⟩) hz3).trans Hc4.out
      have hzr := Nat.lt_of_lt_of_le hz3 hbe.size
      by_cases hi : i < l'.length
      · have hi' : (i : Int) < l'.length := by omega
        by_cases hm : g ≤ most
        · have hRq := HS.out.below hb
          have hbb : Below wb.heap.size wb wr := hRq.sv.base
          obtain ⟨b, o, k9, n9, s9, e9, l9, p9, cap9, rfl, hli, g0, g1, g2, g3, g4, hbw, hty⟩ := Hel.out i hi
          rw [← hbb.cell (p := ⟨b, o + i * 5, none⟩) hbw] at g0
          rw [← hbb.cell (p := ⟨b, o + i * 5 + 1, none⟩) hbw] at g1
          rw [← hbb.cell (p := ⟨b, o + i * 5 + 2, none⟩) hbw] at g2
          rw [← hbb.cell (p := ⟨b, o + i * 5 + 3, none⟩) hbw] at g3
          rw [← hbb.cell (p := ⟨b, o + i * 5 + 4, none⟩) hbw] at g4
          have hbr := Nat.lt_of_lt_of_le hbw hbb.size
          have hls := HX.out.less i hi
          have hsa := HshA.out i hi
          rw [hli] at hty hls hsa
          have Hcall : Hid _ := Hih.out wr k9 n9 s9 e9 l9 p9 cap9 (most - g) (by have := Hcount.out; omega) hRq hty hsa (by omega) (by omega)
          have hmi : i < (l'.map (Ty.app f)).length := by simpa using hi
          have hgi : (l'.map (Ty.app f))[i]'hmi = (Ty.mk k9 n9 s9 e9 l9).app f := by rw [List.getElem_map, hli]
          have Hs' : Hid (R = Ty.partsL ((l'.map (Ty.app f)).drop (i + 1)) (g + ((Ty.mk k9 n9 s9 e9 l9).app f).parts (most - g)) most) := by
            unfold Hid
            rw [← hgi, ← Ty.partsL_step (l'.map (Ty.app f)) i hmi g most hm]
            exact Hs.out
          have hpb := Ty.parts_bounds ((Ty.mk k9 n9 s9 e9 l9).app f) (most - g) (by omega)
          generalize ((Ty.mk k9 n9 s9 e9 l9).app f).parts (most - g) = r at *
          clear hty hli Hs Hih Hel Hc4 hls hsa hgi hmi hRq hbb
          go_wp2_with fail
          refine Calls.mono Hcall.out ?_
          rintro e w4 ⟨rfl, hb4⟩
          have hbe4 := Below.then hbe hb4 (Nat.le_refl _)
          clear hb4
          go_wp2
          exact ⟨⟨g + r, i + 1, rfl, by go_num, by omega, by omega, by omega, hbe4, Hs'⟩, by simp [intOf]; omega⟩
        · have Hs' : Hid (R = g) := by
            unfold Hid
            rw [Hs.out, Ty.partsL_over _ _ _ hm]
          clear Hs
          go_wp2
          go_ret
          exact ⟨ret_int Hs'.out.symm, hb⟩
      · have hi' : ¬ (i : Int) < l'.length := by omega
        have Hs' : Hid (R = g) := by
          unfold Hid
          rw [Hs.out, List.drop_of_length_le (by simp; omega), Ty.partsL_end]
        clear Hs
        go_wp2
        go_ret
        exact ⟨ret_int Hs'.out.symm, hb⟩
end Go.Proofs.Ytbgpjaniohpfaaa
