/-
  What each variable stands for, in rising order (binds).
-/
import Derived.Test.YtbgpjaniohpfaaaK14
namespace Go.Proofs.Ytbgpjaniohpfaaa
open Go.RowKit Go.Deep
variable {μ : Marks}
theorem infos35 : (Try.prog.info? 35).map (fun i => (i.zero, i.size, i.bytes)) = some (some (.agg #[.int .i64 0, .int .i64 0, .int .i64 0, .string { data := #[] }, .int .i64 0, .slice none 0 0]), 6, 72) := by kernel_rfl
theorem slice25 : Try.prog.underlying 25 = some (.slice 35) := by kernel_rfl
def bindRow (L : List (Int × List Value × Ty)) : List Value := L.flatMap fun x => .int .i64 x.1 :: x.2.1
theorem bindRow_snoc (L : List (Int × List Value × Ty)) (x : Int × List Value × Ty) : bindRow (L ++ [x]) = bindRow L ++ (.int .i64 x.1 :: x.2.1) := by simp [bindRow]
theorem cells6_new (w : World) (c0 c1 c2 c3 c4 c5 : Value) (t : TypeId) : ∀ j u, [c0, c1, c2, c3, c4, c5][j]? = some u → (w.alloc (.cells #[c0, c1, c2, c3, c4, c5] t)).cell? ((⟨w.heap.size, 0, none⟩ : Addr).add j) = some u := by
  intro j u hj
  have hlt : j < 6 := by
    have := (List.getElem?_eq_some_iff.1 hj).1
    simpa using this
  match j, hlt, hj with
  | 0, _, hj => simp at hj; subst hj; simp [Addr.add]
  | 1, _, hj => simp at hj; subst hj; simp [Addr.add]
  | 2, _, hj => simp at hj; subst hj; simp [Addr.add]
  | 3, _, hj => simp at hj; subst hj; simp [Addr.add]
  | 4, _, hj => simp at hj; subst hj; simp [Addr.add]
  | 5, _, hj => simp at hj; subst hj; simp [Addr.add]
theorem one6_mem (a k m : Int) (s : ByteArray) (e : Int) (p : Option Addr) (n cap : Nat) : ∀ u ∈ [Value.int .i64 a, .int .i64 k, .int .i64 m, .string s, .int .i64 e, .slice p n cap], u.oneCell' = true := by
  intro u hu
  simp only [List.mem_cons, List.not_mem_nil, or_false] at hu
  rcases hu with rfl | rfl | rfl | rfl | rfl | rfl <;> rfl
/-- A variable as it lies in memory. -/
theorem var_tyIn (w : World) {x : Int} (hx : (Lit.int .i64 x).wf = true) : TyIn w [.int .i64 0, .int .i64 x, .string { data := #[] }, .int .i64 0, .slice none ([] : List Ty).length 0] (.mk 0 x { data := #[] } 0 []) := (TyAt.leaf (fun _ => True) w (by decide) hx (by decide) (by decide)).tyIn
theorem var_shaped (x : Int) : (Ty.mk 0 x { data := #[] } 0 []).shaped = true := by
  unfold Ty.shaped Ty.shapedL
  rfl
/-- What is left where it was asked what each variable stands for. -/
inductive BindsPost (μ : Marks) (wb : World) (sp bM bQ n nq : Nat) (f : Int → Ty) (q : Int → Int) (V : List Int) (w : World) (e' : Ending) (w' : World) : Prop
  | big (x : Int) (hx : x ∈ V) (hb : 400 < (f x).count) (he : e' = .returned (.tuple #[.slice none 0 0, .bool false])) (hk : Kp [bM] w w') (hw : Below wb.heap.size wb w') : BindsPost μ wb sp bM bQ n nq f q V w e' w'
  | ok (v : Value) (L : List (Int × List Value × Ty)) (he : e' = .returned (.tuple #[v, .bool true])) (hL : L.map (fun x => (x.1, x.2.2)) = (V.mergeSort leI).map (fun x => (x, (f x).app (mkv q)))) (hc : ∀ x ∈ V, (f x).count ≤ 400)
      (ho : w'.ownsRow w.heap.size 35 6 v L.length (bindRow L)) (hT : TysAt (fun b => w.heap.size ≤ b ∧ some b ≠ v.ownBlock) w' (L.map (·.2))) (hk : Kp [bM] w w') (hw : Below wb.heap.size wb w') : BindsPost μ wb sp bM bQ n nq f q V w e' w'
set_option maxHeartbeats 4000000 in
set_option maxRecDepth 100000 in
theorem binds_any (wb : World) (sp bM bQ n nq : Nat) (f : Int → Ty) (q : Int → Int) (V : List Int) (w : World) (M : Int → Option Ty) (hS : Sq μ wb w sp bM bQ n nq M f q V) (hnd : V.Nodup) (hwf : ∀ x ∈ V, (Lit.int .i64 x).wf = true) (hnq : nq * 8 ≤ 140737488355328) (hVl : V.length ≤ 2000000) :
    Calls Try.prog 18 #[.pointer (some ⟨sp, 0, none⟩)] w fun e' w' => BindsPost μ wb sp bM bQ n nq f q V w e' w' := by
  obtain ⟨i0, hi0, hzz0, hzz1, hzz2⟩ := info_parts infos35
  have hlt := hS.lt
  have hc1 := hS.cell
  obtain ⟨G, hG1, hG2⟩ := hS.map
  have hkeys := hG1.keys (fun x => (hG2 x).2.1) hnd hwf hnq
  have Hkeys : Hid _ := hkeys
  have HS : Hid (Sq μ wb w sp bM bQ n nq M f q V) := hS
  have Hwf : Hid (∀ x ∈ V, (Lit.int .i64 x).wf = true) := hwf
  generalize hzs : V.mergeSort leI = zs at *
  have hzl : zs.length = V.length := by rw [← hzs]; exact List.length_mergeSort V
  have hzm : ∀ x, x ∈ zs ↔ x ∈ V := fun x => by rw [← hzs]; exact List.mem_mergeSort
  have Hzs : Hid (V.mergeSort leI = zs) := hzs
  have Hzm : Hid (∀ x, x ∈ zs ↔ x ∈ V) := hzm
  have Hzl : Hid (zs.length = V.length) := hzl
  clear hS hG1 hG2 hnd hwf hnq hkeys hzs hzm hzl
  go_enter Try.func18, Try.ntmps18
  go_wp2_with (go_at_call 32; refine (keys_any _ _).mono ?_; rintro e1 w1 ⟨rfl, rfl⟩)
  refine Calls.mono Hkeys.out ?_
  rintro e2 w2 ⟨v13, rfl, hrow, hb2⟩
  have hz2 : w.heap.size + 1 ≤ w2.heap.size := by have := hb2.size; rw [heap_size_alloc] at this; exact this
  have hK2 : Kp [] w w2 := (Kp.alloc _ _ _).trans (Kp.of_below (by rw [heap_size_alloc]; exact hb2))
  have hS2 : Sq μ wb w2 sp bM bQ n nq M f q V := HS.out.kp hK2 (by simp)
  have hrowz : ∃ p cap, v13 = .slice p zs.length cap ∧ ∀ i (hi : i < zs.length), ∃ g, p = some ⟨g, 0, none⟩ ∧ w.heap.size < g ∧ g < w2.heap.size ∧ w2.cell? ⟨g, i, none⟩ = some (.int .i64 (zs[i]'hi)) := by
    rcases hrow.2 with ⟨rfl, h0⟩ | ⟨g, cap, cur, rfl, h1, h2, h3, h4, h5, h6⟩
    · exact ⟨none, 0, by rw [Hzl.out, h0], fun i hi => by have := Hzl.out; omega⟩
    · refine ⟨some ⟨g, 0, none⟩, cap, by rw [Hzl.out], fun i hi => ⟨g, rfl, by omega, (Array.getElem?_eq_some_iff.1 h2).1, ?_⟩⟩
      have hq : (zs.map encZ)[i]? = some (.int .i64 (zs[i]'hi)) := by rw [List.getElem?_map, List.getElem?_eq_getElem hi]; rfl
      rw [← h6, List.getElem?_take, if_pos (by have := Hzl.out; omega)] at hq
      simpa [World.cell?, h2] using hq
  obtain ⟨p13, cap13, rfl, hcz⟩ := hrowz
  have Hcz : Hid _ := hcz
  have HS2 : Hid _ := hS2
  have HK2 : Hid _ := hK2
  clear hcz hS2 hK2 hrow hb2 Hkeys hc1
  go_wp2_with fail
  go_loopg [4, 15] zs.length (fun g v0 iv wr => ∃ (i : Nat) (v : Value), v = v0 ∧ iv = .int .i64 i ∧ i ≤ zs.length ∧ g = zs.length - i ∧ Hid (∃ (L : List (Int × List Value × Ty)), L.length = i ∧ L.map (fun x => (x.1, x.2.2)) = (zs.take i).map (fun x => (x, (f x).app (mkv q))) ∧ (∀ x ∈ zs.take i, (f x).count ≤ 400) ∧ wr.ownsRow w2.heap.size 35 6 v L.length (bindRow L) ∧ TysAt (fun b => w2.heap.size ≤ b ∧ some b ≠ v.ownBlock) wr (L.map (·.2)) ∧ SqPost μ wb sp bM bQ n nq f V w2 M [bM] q wr))
  case atStart => exact ⟨0, _, rfl, rfl, by omega, by omega, [], rfl, rfl, (fun x hx => by simp at hx), World.ownsRow_nil _ _ _ _, (fun x hx => by cases hx), SqPost.mk M HS2.out (fun _ => rfl) (Kp.refl _ _)⟩
  case round =>
    clear HS2
    obtain ⟨i, v5, hv5, rfl, hi1, rfl, HR⟩ := hrel
    subst hv5
    have hzb : zs.length ≤ 2000000 := by have := Hzl.out; omega
    by_cases hi : i < zs.length
    · have hi' : (i : Int) < zs.length := by omega
      obtain ⟨g, rfl, hgw, hg2, hgc⟩ := Hcz.out i hi
      obtain ⟨L, r1, r2, r3, r4, r5, r6⟩ := HR.out
      cases r6 with
      | mk Mr t1 t2 t3 =>
      clear HR
      have hzi : zs[i]'hi ∈ V := (Hzm.out _).1 (List.getElem_mem hi)
      have htk : (zs.take (i + 1)) = zs.take i ++ [zs[i]'hi] := List.take_succ_eq_append_getElem hi
      have hcell := t3.cell hgc (by simp <;> omega)
      have hgr : g < wr.heap.size := Nat.lt_of_lt_of_le hg2 t3.size
      generalize zs[i]'hi = x at *
      have hxw := Hwf.out x hzi
      have hap : (Ty.mk 0 x { data := #[] } 0 []).app f = f x := Ty.app_var rfl
      have hka : Kp [] wr (wr.alloc (Obj.cells #[Value.int IntKind.i64 0, Value.int IntKind.i64 x, Value.string { data := #[] }, Value.int IntKind.i64 0, Value.slice none 0 0] 33)) := Kp.alloc _ _ _
      have hSa := t1.kp hka (by simp)
      have hcall := fits_any wb sp bM n f _ Mr 0 x { data := #[] } 0 [] none 0 hSa.sv (var_tyIn wb hxw) ⟨var_shaped x, μ.bare x⟩
      rw [hap] at hcall
      have Hcall : Hid _ := hcall
      have HSa : Hid _ := hSa
      have T2 : Hid (∀ x, (Mr x).isSome = (M x).isSome) := t2
      have T3 : Hid (Kp [bM] w2 wr) := t3
      have R1 : Hid (L.length = i) := r1
      have R2 : Hid (L.map (fun x => (x.1, x.2.2)) = (zs.take i).map (fun x => (x, (f x).app (mkv q)))) := r2
      have R3 : Hid (∀ x ∈ zs.take i, (f x).count ≤ 400) := r3
      have R4 : Hid (wr.ownsRow w2.heap.size 35 6 v5 L.length (bindRow L)) := r4
      have R5 : Hid (TysAt (fun b => w2.heap.size ≤ b ∧ some b ≠ v5.ownBlock) wr (L.map (·.2))) := r5
      have Htk : Hid (zs.take (i + 1) = zs.take i ++ [x]) := htk
      have Hap : Hid ((Ty.mk 0 x { data := #[] } 0 []).app f = f x) := hap
      have hB0 := Box.new wr (.int .i64 0) (.int .i64 x) (.string { data := #[] }) (.int .i64 0) (.slice none 0 0)
      clear hcall t1 t2 t3 r1 r2 r3 r4 r5 htk hap hSa hka
      go_wp2_with fail
      refine Calls.mono Hcall.out ?_
      rintro e10 w6 ⟨rfl, hp⟩
      cases hp with
      | mk M6 u1 u2 u3 =>
      have HS6 : Hid (Sq μ wb w6 sp bM bQ n nq M6 f q V) := Sq.after HSa.out u1 u3
      have U2 : Hid (∀ x, (M6 x).isSome = (Mr x).isSome) := u2
      have U3 : Hid (Kp [bM] w2 w6) := T3.out.trans ((Kp.alloc _ _ _).trans u3)
      have hB6 := hB0.kp u3 (by have := T3.out.size; simp <;> omega)
      have hu3s := u3.size
      rw [heap_size_alloc] at hu3s
      have Hu3 : Hid _ := u3
      clear u1 u2 u3 Hcall HSa hB0 hcell
      by_cases hc : (f x).count ≤ 400
      · have hd : decide ((f x).count ≤ 400) = true := by simpa using hc
        rw [hd]
        obtain ⟨x0, x1, x2, x3, x4⟩ := hB6.cells
        clear hd
        have hcall := replace_any wb sp bM bQ n nq f q V _ (.mk 0 x { data := #[] } 0 []) (Nat.le_refl _) (by rw [Hap.out]; exact hc) w6 M6 0 x { data := #[] } 0 [] none 0 rfl HS6.out (var_tyIn wb hxw) ⟨var_shaped x, μ.bare x⟩
        have Hcall : Hid _ := hcall
        have Hc : Hid ((f x).count ≤ 400) := hc
        clear hcall hc
        go_wp2_with fail
        refine Calls.mono Hcall.out ?_
        rintro e11 w7 hp
        obtain ⟨k3, m3, s3, e3, l3, p3, cap3, rfl, hT3, hA3, hP3⟩ := hp.ret
        clear hp Hcall x0 x1 x2 x3 x4
        cases hP3 with
        | mk M7 y1 y2 y3 =>
        rw [Hap.out] at hT3
        have hz26 : w2.heap.size ≤ w6.heap.size := U3.out.size
        have hrow6 : w6.ownsRow w2.heap.size 35 6 v5 L.length (bindRow L) := ownsRow.kp (ownsRow.kp R4.out (Kp.alloc [] _ _) (by simp)) Hu3.out (fun g hg => by have := R4.out.lt g hg; simp <;> omega)
        have hrow7 : w7.ownsRow w2.heap.size 35 6 v5 L.length (bindRow L) := ownsRow.kp hrow6 y3 (fun g hg => by have := R4.out.lt g hg; simp <;> omega)
        have HT3 : Hid ((f x).app (mkv q) = .mk k3 m3 s3 e3 l3) := hT3
        have HA3 : Hid _ := hA3
        have Y1 : Hid (Sq μ wb w7 sp bM bQ n nq M7 f q V) := y1
        have Y2 : Hid (∀ x, (M7 x).isSome = (M6 x).isSome) := y2
        have Y3 : Hid (Kp [bM] w6 w7) := y3
        have hz67 := y3.size
        have hlen := R1.out
        have hll : L.length + 1 ≤ 2000001 := by omega
        have Hlen : Hid (L.length = i) := hlen
        clear hT3 hA3 y1 y2 y3 hrow6 hlen
        go_wp2_with (at_builtin; refine wpList_append_own_at _ rfl _ _ 25 rfl w2.heap.size 35 i0 (.agg #[.int .i64 0, .int .i64 0, .int .i64 0, .string { data := #[] }, .int .i64 0, .slice none 0 0]) 6 72 slice25 hi0 hzz0 hzz1 hzz2 rfl (by decide) _ _ _ rfl (hrow7.alloc _) ⟨w7.heap.size, 0, none⟩ 1 1 [.int .i64 x, .int .i64 k3, .int .i64 m3, .string s3, .int .i64 e3, .slice p3 l3.length cap3] rfl rfl ?cc ?oc (by unfold maxLen; omega) (by omega) (by simp; omega) ?_)
        case cc => exact cells6_new _ _ _ _ _ _ _ _
        case oc => exact one6_mem _ _ _ _ _ _ _ _
        intro v' w8 ho8 hg8 _ hat8
        have hv5 : ∀ g, v5.ownBlock = some g → w2.heap.size ≤ g ∧ g < wr.heap.size := fun g hg => R4.out.lt g hg
        have hTs : TysAt (fun b => w2.heap.size ≤ b ∧ some b ≠ v'.ownBlock) w8 (L.map (·.2) ++ [([.int .i64 k3, .int .i64 m3, .string s3, .int .i64 e3, .slice p3 l3.length cap3], .mk k3 m3 s3 e3 l3)]) := by
          refine TysAt.append (w := wr) (w2 := w7) R5.out (TyAt.keep HA3.out fun b hb _ => ⟨rfl, by omega⟩) T3.out.size (fun g hg => (hv5 g hg).2) ?_ (by omega) ((Below.refl _ _).alloc (Nat.le_refl _) _) hg8 (by rw [heap_size_alloc]; exact hat8)
          intro b hb1 hb2
          rw [Y3.out.block b (by omega) (by simp; omega), Kp.block Hu3.out b (by simp; omega) (by simp; omega)]
          exact Below.heap_alloc _ _ _ hb2
        have hka : Kp (v5.ownBlock.toList) w7 w8 := (Kp.alloc (v5.ownBlock.toList) w7 _).trans (Kp.of_grown hg8 (by intro k hk; rw [hk]; simp))
        have hk8 : Kp [bM] w2 w8 := (U3.out.trans Y3.out).then hka (by intro y hy; right; exact (hv5 y (by simpa using hy)).1)
        have hSq8 : Sq μ wb w8 sp bM bQ n nq M7 f q V := by
          refine Y1.out.kp hka ⟨?_, ?_, ?_, ?_⟩
          · intro hy
            have := (hv5 sp (by simpa using hy)).1
            omega
          · intro hy
            have := (hv5 bM (by simpa using hy)).1
            omega
          · intro hy
            have := (hv5 bQ (by simpa using hy)).1
            omega
          · intro y hy
            have := (hv5 y (by simpa using hy)).1
            omega
        have Q : Hid (∃ (L : List (Int × List Value × Ty)), L.length = i + 1 ∧ L.map (fun x => (x.1, x.2.2)) = (zs.take (i + 1)).map (fun x => (x, (f x).app (mkv q))) ∧ (∀ x ∈ zs.take (i + 1), (f x).count ≤ 400) ∧ w8.ownsRow w2.heap.size 35 6 v' L.length (bindRow L) ∧ TysAt (fun b => w2.heap.size ≤ b ∧ some b ≠ v'.ownBlock) w8 (L.map (·.2)) ∧ SqPost μ wb sp bM bQ n nq f V w2 M [bM] q w8) := by
          refine ⟨L ++ [(x, [.int .i64 k3, .int .i64 m3, .string s3, .int .i64 e3, .slice p3 l3.length cap3], .mk k3 m3 s3 e3 l3)], by simp; exact Hlen.out, ?_, ?_, ?_, ?_, SqPost.mk M7 hSq8 (fun x => (Y2.out x).trans ((U2.out x).trans (T2.out x))) hk8⟩
          · rw [List.map_append, Htk.out, List.map_append, R2.out]
            simp [HT3.out]
          · intro y hy
            rw [Htk.out] at hy
            rcases List.mem_append.1 hy with h | h
            · exact R3.out y h
            · obtain rfl : y = x := by simpa using h
              exact Hc.out
          · rw [bindRow_snoc, List.length_append]
            exact ho8
          · rw [List.map_append]
            exact hTs
        clear ho8 hg8 hat8 hTs hk8 hka hSq8 hrow7 HA3 HT3 Y1 Y2 Y3 U2 U3 R1 R2 R3 R4 R5 Htk T2 T3 HS6
        go_wp2
        go_roundg (zs.length - (i + 1))
        case measure => omega
        case rel => exact ⟨i + 1, _, rfl, by first | rfl | (congr 1; omega) | go_num, by omega, rfl, Q⟩
      · have hd : decide ((f x).count ≤ 400) = false := by simpa using hc
        rw [hd]
        have Hc : Hid (400 < (f x).count) := by unfold Hid; omega
        clear hd hc
        go_wp2
        refine bodyPost_ret (v := .tuple #[.slice none 0 0, .bool false]) (by simp [results, Try.results18, go_sem]) rfl (BindsPost.big x hzi Hc.out rfl (Kp.trans (Kp.mono HK2.out (by simp)) U3.out) HS6.out.base)
    · have hi' : ¬ (i : Int) < zs.length := by omega
      go_wp2
      obtain ⟨L, r1, r2, r3, r4, r5, r6⟩ := HR.out
      cases r6 with
      | mk Mr t1 t2 t3 =>
      rw [List.take_of_length_le (by omega)] at r2 r3
      refine bodyPost_ret (v := .tuple #[v5, .bool true]) (by simp [results, Try.results18, go_sem]) rfl (BindsPost.ok v5 L rfl (by rw [Hzs.out]; exact r2) (fun x hx => r3 x ((Hzm.out x).2 hx)) ?_ ?_ (Kp.trans (Kp.mono HK2.out (by simp)) t3) t1.base)
      · obtain ⟨q1, q2⟩ := r4
        refine ⟨q1, ?_⟩
        rcases q2 with q2 | ⟨g, cap, cur, qv, qg, qq⟩
        · exact .inl q2
        · exact .inr ⟨g, cap, cur, qv, by omega, qq⟩
      · exact fun y hy => (r5 y hy).keep fun b hb _ => ⟨rfl, by omega, hb.2⟩
end Go.Proofs.Ytbgpjaniohpfaaa
