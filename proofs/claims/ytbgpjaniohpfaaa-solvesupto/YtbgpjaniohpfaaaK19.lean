/-
  Variables replaced by a list's types (the law's put).
-/
import Derived.Test.YtbgpjaniohpfaaaS4
import Derived.Test.YtbgpjaniohpfaaaK13
import Derived.Deep.QuietTactic
import Derived.BigQuiet
namespace Go.Proofs.Ytbgpjaniohpfaaa
open Go.RowKit Go.Deep
def putF (Bs : List (Int × Ty)) (n : Int) : Option Ty := (Bs.find? (fun b => b.1 == n)).map (·.2)
mutual
def Ty.put (Bs : List (Int × Ty)) : Ty → Ty
  | .mk k n s e l => if k = 0 then (putF Bs n).getD (.mk k n s e l) else .mk k n s e (Ty.putL Bs l)
def Ty.putL (Bs : List (Int × Ty)) : List Ty → List Ty
  | [] => []
  | a :: l => Ty.put Bs a :: Ty.putL Bs l
end
theorem Ty.putL_eq (Bs : List (Int × Ty)) : ∀ l : List Ty, Ty.putL Bs l = l.map (Ty.put Bs)
  | [] => by unfold Ty.putL; rfl
  | a :: l => by unfold Ty.putL; rw [Ty.putL_eq Bs l]; rfl
theorem Ty.put_mk {Bs : List (Int × Ty)} {k n : Int} {s : ByteArray} {e : Int} {l : List Ty} (h : ¬ k = 0) : (Ty.mk k n s e l).put Bs = .mk k n s e (l.map (Ty.put Bs)) := by rw [Ty.put, if_neg h, Ty.putL_eq]
theorem Ty.put_var {Bs : List (Int × Ty)} {k n : Int} {s : ByteArray} {e : Int} {l : List Ty} (h : k = 0) : (Ty.mk k n s e l).put Bs = (putF Bs n).getD (.mk k n s e l) := by rw [Ty.put, if_pos h]
theorem TyIn.tyAt {w : World} {cs : List Value} {T : Ty} (h : TyIn w cs T) : TyAt (fun b => b < w.heap.size) w cs T := by
  induction h with
  | mk k n s e l p cap b o C hp hw hc hr ih =>
    refine TyAt.mk k n s e l p cap b o C (fun hl => ⟨hp hl, ?_⟩) hw hc ih
    have hl' : 0 < l.length := List.length_pos_iff.2 hl
    have h1 := hc 0 hl' 0 (by omega)
    rw [List.getElem?_eq_getElem (by rw [(ih 0 hl').len]; omega)] at h1
    exact World.block_lt_of_cell? _ _ h1
inductive BindCells (w : World) (b o : Nat) : Int × Ty → Prop
  | mk (x k n : Int) (s : ByteArray) (e : Int) (l : List Ty) (p : Option Addr) (cap : Nat)
      (c0 : w.cell? ⟨b, o, none⟩ = some (.int .i64 x)) (c1 : w.cell? ⟨b, o + 1, none⟩ = some (.int .i64 k)) (c2 : w.cell? ⟨b, o + 2, none⟩ = some (.int .i64 n)) (c3 : w.cell? ⟨b, o + 3, none⟩ = some (.string s)) (c4 : w.cell? ⟨b, o + 4, none⟩ = some (.int .i64 e)) (c5 : w.cell? ⟨b, o + 5, none⟩ = some (.slice p l.length cap))
      (hT : TyIn w [.int .i64 k, .int .i64 n, .string s, .int .i64 e, .slice p l.length cap] (.mk k n s e l)) : BindCells w b o (x, .mk k n s e l)
/-- A row of binds. -/
structure BindsRow (w : World) (p : Option Addr) (Bs : List (Int × Ty)) : Prop where
  len : Bs.length ≤ 2 ^ 63 - 1
  get : ∀ i (hi : i < Bs.length), ∃ b o, p = some ⟨b, o, none⟩ ∧ b < w.heap.size ∧ BindCells w b (o + i * 6) (Bs[i]'hi)
/-- One element more in a row of one's own. -/
theorem TysAt.append2 {R : Nat → Prop} {w w2 w3 w4 : World} {v v' : Value} {L : List (List Value × Ty)} {x : List Value × Ty} (hL : TysAt (fun b => R b ∧ some b ≠ v.ownBlock) w L) (hx : TyAt (fun b => R b ∧ some b ≠ v.ownBlock) w2 x.1 x.2)
    (h12 : Below w.heap.size w w2) (h23 : Below w2.heap.size w2 w3) (h34 : w3.grownBy w4 v.ownBlock) (hat : v'.ownBlock = v.ownBlock ∨ v'.ownBlock = some w3.heap.size) : TysAt (fun b => R b ∧ some b ≠ v'.ownBlock) w4 (L ++ [x]) := by
  have hs2 := h12.size
  have hs3 := h23.size
  have hne : ∀ b, b < w3.heap.size → some b ≠ v.ownBlock → some b ≠ v'.ownBlock := by
    intro b h1 h2 h3
    rcases hat with h | h
    · rw [h] at h3; exact h2 h3
    · rw [h] at h3
      have : b = w3.heap.size := by simpa using h3
      omega
  intro y hy
  rcases List.mem_append.1 hy with hy | hy
  · refine (hL y hy).keep fun b hb hlt => ⟨?_, hb.1, hne b (by omega) hb.2⟩
    rw [h34.block b (by omega) hb.2, h23.block b (by omega), h12.block b hlt]
  · obtain rfl : y = x := by simpa using hy
    exact hx.keep fun b hb hlt => ⟨by rw [h34.block b (by omega) hb.2, h23.block b hlt], hb.1, hne b (by omega) hb.2⟩
/-- What put leaves. -/
inductive PutPost (wb : World) (Bs : List (Int × Ty)) (T : Ty) (w : World) (e' : Ending) (w' : World) : Prop
  | mk (k m : Int) (s : ByteArray) (e : Int) (l : List Ty) (p : Option Addr) (cap : Nat) (he : e' = .returned (.agg #[.int .i64 k, .int .i64 m, .string s, .int .i64 e, .slice p l.length cap])) (hT : T.put Bs = .mk k m s e l)
      (hA : TyAt (fun b => b < wb.heap.size ∨ w.heap.size ≤ b) w' [.int .i64 k, .int .i64 m, .string s, .int .i64 e, .slice p l.length cap] (.mk k m s e l)) (hb : Below w.heap.size w w') : PutPost wb Bs T w e' w'
theorem PutPost.parts {wb : World} {Bs : List (Int × Ty)} {T : Ty} {w : World} {e' : Ending} {w' : World} (h : PutPost wb Bs T w e' w') : ∃ k m s e l p cap, e' = .returned (.agg #[.int .i64 k, .int .i64 m, .string s, .int .i64 e, .slice p (l : List Ty).length cap]) ∧ T.put Bs = .mk k m s e l ∧ TyAt (fun b => b < wb.heap.size ∨ w.heap.size ≤ b) w' [.int .i64 k, .int .i64 m, .string s, .int .i64 e, .slice p l.length cap] (.mk k m s e l) ∧ Below w.heap.size w w' := by
  cases h with
  | mk k m s e l p cap he hT hA hb => exact ⟨k, m, s, e, l, p, cap, he, hT, hA, hb⟩
theorem find_step (Bs : List (Int × Ty)) (i : Nat) (hi : i < Bs.length) (n : Int) : (Bs.drop i).find? (fun b => b.1 == n) = if ((Bs[i]'hi).1 == n) = true then some (Bs[i]'hi) else (Bs.drop (i + 1)).find? (fun b => b.1 == n) := by
  rw [List.drop_eq_getElem_cons hi, List.find?_cons]
  cases h : (Bs[i]'hi).1 == n <;> simp
set_option maxHeartbeats 4000000 in
set_option maxRecDepth 100000 in
theorem put_any (wb : World) (pB : Option Addr) (capB : Nat) (Bs : List (Int × Ty)) (hBs : BindsRow wb pB Bs) : ∀ (T : Ty) (w : World) (k n : Int) (s : ByteArray) (e : Int) (l : List Ty) (p : Option Addr) (cap : Nat), T = .mk k n s e l → TyIn wb [.int .i64 k, .int .i64 n, .string s, .int .i64 e, .slice p l.length cap] (.mk k n s e l) → T.count ≤ 400 → Below wb.heap.size wb w →
    Calls Try.prog 8 #[.agg #[.int .i64 k, .int .i64 n, .string s, .int .i64 e, .slice p l.length cap], .slice pB Bs.length capB] w fun e' w' => PutPost wb Bs T w e' w' := by
  intro T
  induction T using Ty.ind with
  | h k n s e l ih =>
    intro w k9 n9 s9 e9 l9 p cap hTe hT hcnt hbw
    cases hTe
    have hblen := hBs.len
    have HBs : Hid (∀ i (hi : i < Bs.length), ∃ b o, pB = some ⟨b, o, none⟩ ∧ b < wb.heap.size ∧ BindCells wb b (o + i * 6) (Bs[i]'hi)) := hBs.get
    have hbs := hbw.size
    have HT : Hid (TyIn wb [.int .i64 k, .int .i64 n, .string s, .int .i64 e, .slice p l.length cap] (.mk k n s e l)) := hT
    have Hbw : Hid (Below wb.heap.size wb w) := hbw
    have hk2 : Below w.heap.size w ((w.alloc (Obj.cells #[Value.int IntKind.i64 k, Value.int IntKind.i64 n, Value.string s, Value.int IntKind.i64 e, Value.slice p l.length cap] 33)).alloc (Obj.cells #[Value.int IntKind.i64 0, Value.int IntKind.i64 0, Value.string { data := #[] }, Value.int IntKind.i64 0, Value.slice none 0 0] 33)) := ((Below.refl _ _).alloc (Nat.le_refl _) _).alloc (by simp) _
    have hA2 := (Box.new w (.int .i64 k) (.int .i64 n) (.string s) (.int .i64 e) (.slice p l.length cap)).kp (Kp.alloc [] _ (Obj.cells #[Value.int IntKind.i64 0, Value.int IntKind.i64 0, Value.string { data := #[] }, Value.int IntKind.i64 0, Value.slice none 0 0] 33)) (by simp)
    have hR2 := Box.new (w.alloc (Obj.cells #[Value.int IntKind.i64 k, Value.int IntKind.i64 n, Value.string s, Value.int IntKind.i64 e, Value.slice p l.length cap] 33)) (.int .i64 0) (.int .i64 0) (.string { data := #[] }) (.int .i64 0) (.slice none 0 0)
    rw [heap_size_alloc] at hR2
    have hz2 : w.heap.size + 2 ≤ ((w.alloc (Obj.cells #[Value.int IntKind.i64 k, Value.int IntKind.i64 n, Value.string s, Value.int IntKind.i64 e, Value.slice p l.length cap] 33)).alloc (Obj.cells #[Value.int IntKind.i64 0, Value.int IntKind.i64 0, Value.string { data := #[] }, Value.int IntKind.i64 0, Value.slice none 0 0] 33)).heap.size := by simp
    by_cases hk0 : k = 0
    · have hput := Ty.put_var (Bs := Bs) (n := n) (s := s) (e := e) (l := l) hk0
      have Hput : Hid ((Ty.mk k n s e l).put Bs = (putF Bs n).getD (.mk k n s e l)) := hput
      have hk0' : (k == 0) = true := by simpa using hk0
      clear ih hT hbw hput hBs hk0 hcnt
      go_enter Try.func8, Try.ntmps8
      go_wp2_with fail
      generalize (w.alloc (Obj.cells #[Value.int IntKind.i64 k, Value.int IntKind.i64 n, Value.string s, Value.int IntKind.i64 e, Value.slice p l.length cap] 33)).alloc (Obj.cells #[Value.int IntKind.i64 0, Value.int IntKind.i64 0, Value.string { data := #[] }, Value.int IntKind.i64 0, Value.slice none 0 0] 33) = w2 at *
      have HA2 : Hid _ := hA2
      have HR2 : Hid _ := hR2
      have HK2 : Hid (Below w.heap.size w w2) := hk2
      clear hA2 hR2 hk2
      go_loopg [5] Bs.length (fun g iv wr => ∃ (i : Nat), iv = .int .i64 i ∧ i ≤ Bs.length ∧ g = Bs.length - i ∧ Hid (Below w2.heap.size w2 wr ∧ (Bs.find? (fun b => b.1 == n)) = (Bs.drop i).find? (fun b => b.1 == n)))
      case atStart => exact ⟨0, rfl, by omega, by omega, Below.refl _ _, by rw [List.drop_zero]⟩
      case round =>
        obtain ⟨i, rfl, hi1, rfl, HR⟩ := hrel
        have hA := (Box.kp (X := []) HA2.out (Kp.of_below HR.out.1) (by simp))
        have hR := (Box.kp (X := []) HR2.out (Kp.of_below HR.out.1) (by simp))
        have hWr : Below w.heap.size w wr := HK2.out.trans (HR.out.1.mono (by omega))
        have hBr : Below wb.heap.size wb wr := Hbw.out.trans (hWr.mono hbs)
        obtain ⟨x0, x1, x2, x3, x4⟩ := hA.cells
        have HRx : Hid _ := hR
        have HWr : Hid (Below w.heap.size w wr) := hWr
        by_cases hi : i < Bs.length
        · have hi' : (i : Int) < Bs.length := by omega
          obtain ⟨b, o, rfl, hbl, hpc⟩ := HBs.out i hi
          have hfs := find_step Bs i hi n
          rw [← HR.out.2] at hfs
          have hbr' := Nat.lt_of_lt_of_le hbl hBr.size
          have HR1 : Hid (Below w2.heap.size w2 wr) := HR.out.1
          clear HR hR hA
          generalize hpi : Bs[i]'hi = pr at *
          cases hpc with
          | mk x k1 n1 s1 e1 l1 p1 cap1 c0 c1 c2 c3 c4 c5 hT1 =>
          rw [← hBr.cell (p := ⟨b, o + i * 6, none⟩) hbl] at c0
          rw [← hBr.cell (p := ⟨b, o + i * 6 + 1, none⟩) hbl] at c1
          rw [← hBr.cell (p := ⟨b, o + i * 6 + 2, none⟩) hbl] at c2
          rw [← hBr.cell (p := ⟨b, o + i * 6 + 3, none⟩) hbl] at c3
          rw [← hBr.cell (p := ⟨b, o + i * 6 + 4, none⟩) hbl] at c4
          rw [← hBr.cell (p := ⟨b, o + i * 6 + 5, none⟩) hbl] at c5
          have HT1 : Hid _ := hT1
          have HBr : Hid (Below wb.heap.size wb wr) := hBr
          have Hfs : Hid (Bs.find? (fun b => b.1 == n) = if (x == n) = true then some (x, .mk k1 n1 s1 e1 l1) else (Bs.drop (i + 1)).find? (fun b => b.1 == n)) := hfs
          clear hfs hT1 hpi hBr hWr
          cases hxn : (x == n) with
          | true =>
            have Hres : Hid ((Ty.mk k n s e l).put Bs = .mk k1 n1 s1 e1 l1) := by
              unfold Hid
              rw [Hput.out]
              unfold putF
              rw [Hfs.out, if_pos hxn]
              rfl
            clear Hfs Hput
            go_wp2_with fail
            go_region
            all_goals go_wp2_with (refine wpList_store5 rfl _ _ rfl rfl _ rfl rfl (Box.kp (X := []) HRx.out (Kp.refl _ _).drew (by simp)) (one5 _ _ _ _ _ _ _) ?_; intro w6 hB6 hk6)
            all_goals obtain ⟨v0, v1, v2, v3, v4⟩ := hB6.cells
            all_goals have hW6 : Below w.heap.size w w6 := HWr.out.drew.trans (hk6.below HWr.out.size (by simp))
            all_goals have hB6' : Below wb.heap.size wb w6 := Hbw.out.trans (hW6.mono hbs)
            all_goals exact bodyPost_ret (v := .agg #[.int .i64 k1, .int .i64 n1, .string s1, .int .i64 e1, .slice p1 l1.length cap1]) (by simp [results, Try.results8, go_sem, v0, v1, v2, v3, v4]) rfl (PutPost.mk k1 n1 s1 e1 l1 p1 cap1 rfl Hres.out ((TyIn.tyAt HT1.out).keep fun b hb _ => ⟨hB6'.block b hb, .inl hb⟩) hW6)
          | false =>
            have Hres : Hid (Bs.find? (fun b => b.1 == n) = (Bs.drop (i + 1)).find? (fun b => b.1 == n)) := by
              unfold Hid
              rw [Hfs.out, if_neg (by rw [hxn]; simp)]
            clear Hfs
            go_wp2_with fail
            go_region
            all_goals go_wp2
            all_goals go_roundg (Bs.length - (i + 1))
            all_goals first | omega | exact ⟨i + 1, by first | rfl | (congr 1; omega) | go_num, by omega, rfl, HR1.out.drew, Hres.out⟩
        · have hi' : ¬ (i : Int) < Bs.length := by omega
          have hres : (Ty.mk k n s e l).put Bs = .mk k n s e l := by
            rw [Hput.out]
            unfold putF
            rw [HR.out.2, List.drop_of_length_le (by omega)]
            rfl
          have Hres : Hid ((Ty.mk k n s e l).put Bs = .mk k n s e l) := hres
          clear hres HR hA hR hBr hWr
          go_wp2_with (refine wpList_store5 rfl _ _ rfl rfl _ rfl rfl HRx.out (one5 _ _ _ _ _ _ _) ?_; intro w6 hB6 hk6)
          obtain ⟨v0, v1, v2, v3, v4⟩ := hB6.cells
          have hW6 : Below w.heap.size w w6 := HWr.out.trans (hk6.below HWr.out.size (by simp))
          have hB6' : Below wb.heap.size wb w6 := Hbw.out.trans (hW6.mono hbs)
          exact bodyPost_ret (v := .agg #[.int .i64 k, .int .i64 n, .string s, .int .i64 e, .slice p l.length cap]) (by simp [results, Try.results8, go_sem, v0, v1, v2, v3, v4]) rfl (PutPost.mk k n s e l p cap rfl Hres.out ((TyIn.tyAt HT.out).keep fun b hb _ => ⟨hB6'.block b hb, .inl hb⟩) hW6)
    · have hput := Ty.put_mk (Bs := Bs) (n := n) (s := s) (e := e) (l := l) hk0
      have Hput : Hid ((Ty.mk k n s e l).put Bs = .mk k n s e (l.map (Ty.put Bs))) := hput
      have hk0' : (k == 0) = false := by simpa using hk0
      have hcl : (Ty.mk k n s e l).count = 1 + Ty.countL l := by rw [Ty.count]
      have hl400 : l.length ≤ 400 := by
        have h1 : ∀ r : List Ty, r.length ≤ Ty.countL r := by
          intro r
          induction r with
          | nil => exact Nat.zero_le _
          | cons a r ih =>
            have := Full.count_pos a
            unfold Ty.countL
            simp only [List.length_cons]
            omega
        have := h1 l
        omega
      have hci : ∀ i (hi : i < l.length), (l[i]'hi).count ≤ 400 := by
        intro i hi
        have := Ty.countL_mem l i hi
        omega
      obtain ⟨i0, hi0, hzz0, hzz1, hzz2⟩ := info_parts infos33
      obtain ⟨pp, cp, hcs, hl1, hl2, hel⟩ := hT.elem
      obtain ⟨rfl, rfl⟩ : p = pp ∧ cap = cp := by simpa using hcs
      have Hel : Hid _ := hel
      have Hih : Hid _ := ih
      have Hci : Hid (∀ i (hi : i < l.length), (l[i]'hi).count ≤ 400) := hci
      have hwk := shaped_wf hT
      have Hwk : Hid _ := hwk
      have Hss : Hid (s.size ≤ maxLen) := tyIn_name hT
      unfold maxLen at hl1
      clear ih hT hbw hput hBs hk0 hcnt hcl hci hel hcs hwk
      go_enter Try.func8, Try.ntmps8
      go_wp2_with fail
      generalize (w.alloc (Obj.cells #[Value.int IntKind.i64 k, Value.int IntKind.i64 n, Value.string s, Value.int IntKind.i64 e, Value.slice p l.length cap] 33)).alloc (Obj.cells #[Value.int IntKind.i64 0, Value.int IntKind.i64 0, Value.string { data := #[] }, Value.int IntKind.i64 0, Value.slice none 0 0] 33) = w2 at *
      have HA2 : Hid (Box w2 w.heap.size (.int .i64 k) (.int .i64 n) (.string s) (.int .i64 e) (.slice p l.length cap)) := hA2
      have HR2 : Hid (Box w2 (w.heap.size + 1) (.int .i64 0) (.int .i64 0) (.string { data := #[] }) (.int .i64 0) (.slice none 0 0)) := hR2
      have HK2 : Hid (Below w.heap.size w w2) := hk2
      clear hA2 hR2 hk2
      go_loopg [6, 7] l.length (fun g v0 iv wr => ∃ (i : Nat) (v : Value), v = v0 ∧ iv = .int .i64 i ∧ i ≤ l.length ∧ g = l.length - i ∧ Hid (∃ (L : List (List Value × Ty)), L.length = i ∧ L.map (·.2) = (l.take i).map (Ty.put Bs) ∧ wr.ownsRow w2.heap.size 33 5 v L.length (rowCells L) ∧ TysAt (fun b => (b < wb.heap.size ∨ w2.heap.size ≤ b) ∧ some b ≠ v.ownBlock) wr L ∧ Below w2.heap.size w2 wr))
      case atStart => exact ⟨0, _, rfl, rfl, by omega, by omega, [], rfl, rfl, World.ownsRow_nil _ _ _ _, (fun x hx => by cases hx), Below.refl _ _⟩
      case round =>
        obtain ⟨i, v5, hv5, rfl, hi1, rfl, HR⟩ := hrel
        subst hv5
        obtain ⟨L, r1, r2, r3, r4, r6⟩ := HR.out
        clear HR
        have hA := HA2.out.kp (X := []) (Kp.of_below r6) (by simp)
        obtain ⟨x0, x1, x2, x3, x4⟩ := hA.cells
        have hWr : Below w.heap.size w wr := HK2.out.trans (r6.mono (by omega))
        have hBr : Below wb.heap.size wb wr := Hbw.out.trans (hWr.mono hbs)
        have R1 : Hid (L.length = i) := r1
        have R2 : Hid (L.map (·.2) = (l.take i).map (Ty.put Bs)) := r2
        have R3 : Hid (wr.ownsRow w2.heap.size 33 5 v5 L.length (rowCells L)) := r3
        have R4 : Hid (TysAt (fun b => (b < wb.heap.size ∨ w2.heap.size ≤ b) ∧ some b ≠ v5.ownBlock) wr L) := r4
        have R6 : Hid (Below w2.heap.size w2 wr) := r6
        have hz6 := r6.size
        clear r1 r2 r3 r4 r6 hA
        by_cases hi : i < l.length
        · have hi' : (i : Int) < l.length := by omega
          obtain ⟨b, o, k2, n2, s2, e2, l2, p2, cap2, rfl, hli, g0, g1, g2, g3, g4, hbl, hty⟩ := Hel.out i hi
          rw [← hBr.cell (p := ⟨b, o + i * 5, none⟩) hbl] at g0
          rw [← hBr.cell (p := ⟨b, o + i * 5 + 1, none⟩) hbl] at g1
          rw [← hBr.cell (p := ⟨b, o + i * 5 + 2, none⟩) hbl] at g2
          rw [← hBr.cell (p := ⟨b, o + i * 5 + 3, none⟩) hbl] at g3
          rw [← hBr.cell (p := ⟨b, o + i * 5 + 4, none⟩) hbl] at g4
          have hbr' := Nat.lt_of_lt_of_le hbl hBr.size
          have htk : (l.take (i + 1)).map (Ty.put Bs) = (l.take i).map (Ty.put Bs) ++ [(l[i]'hi).put Bs] := by
            rw [List.take_succ_eq_append_getElem hi, List.map_append]
            rfl
          have hcall := Hih.out i hi wr k2 n2 s2 e2 l2 p2 cap2 hli (hli ▸ hty) (Hci.out i hi) hBr
          generalize l[i]'hi = A at *
          have Hcall : Hid _ := hcall
          have Htk : Hid ((l.take (i + 1)).map (Ty.put Bs) = (l.take i).map (Ty.put Bs) ++ [A.put Bs]) := htk
          have HBr : Hid (Below wb.heap.size wb wr) := hBr
          clear hcall htk hty hli hBr hWr
          go_wp2_with fail
          refine Calls.mono Hcall.out ?_
          rintro e10 w6 hp
          obtain ⟨k3, m3, s3, e3, l3, p3, cap3, rfl, hT3, hA3, hb6⟩ := hp.parts
          clear hp Hcall g0 g1 g2 g3 g4 x0 x1 x2 x3 x4
          have hz66 := hb6.size
          have hrow6 : w6.ownsRow w2.heap.size 33 5 v5 L.length (rowCells L) := ownsRow.kp (X := []) R3.out (Kp.of_below hb6) (by simp)
          have hlen := R1.out
          have hll : L.length + 1 ≤ 400 := by omega
          have Hlen : Hid (L.length = i) := hlen
          have HT3 : Hid (A.put Bs = .mk k3 m3 s3 e3 l3) := hT3
          have HA3 : Hid _ := hA3
          have Hb6 : Hid (Below wr.heap.size wr w6) := hb6
          clear hlen hT3 hA3 hb6
          have hrow7 := (hrow6.alloc (Obj.cells #[.int .i64 k3, .int .i64 m3, .string s3, .int .i64 e3, .slice p3 l3.length cap3] 33)).alloc (Obj.cells #[.int .i64 k3, .int .i64 m3, .string s3, .int .i64 e3, .slice p3 l3.length cap3] 33)
          go_wp2_with (at_builtin; refine wpList_append_own_at _ rfl _ _ 31 rfl w2.heap.size 33 i0 (.agg #[.int .i64 0, .int .i64 0, .string { data := #[] }, .int .i64 0, .slice none 0 0]) 5 64 slice31 hi0 hzz0 hzz1 hzz2 rfl (by decide) _ _ _ rfl hrow7 ⟨w6.heap.size + 1, 0, none⟩ 1 1 [.int .i64 k3, .int .i64 m3, .string s3, .int .i64 e3, .slice p3 l3.length cap3] rfl rfl ?cc ?oc (by unfold maxLen; omega) (by omega) (by simp; omega) ?_)
          case cc =>
            have := cells5_new (w6.alloc (Obj.cells #[.int .i64 k3, .int .i64 m3, .string s3, .int .i64 e3, .slice p3 l3.length cap3] 33)) (.int .i64 k3) (.int .i64 m3) (.string s3) (.int .i64 e3) (.slice p3 l3.length cap3) 33
            rw [heap_size_alloc] at this
            exact this
          case oc => exact one5_mem _ _ _ _ _ _ _
          intro v' w8 ho8 hg8 _ hat8
          have hv5 : ∀ g, v5.ownBlock = some g → w2.heap.size ≤ g ∧ g < wr.heap.size := fun g hg => R3.out.lt g hg
          have h67 : Below w6.heap.size w6 ((w6.alloc (Obj.cells #[.int .i64 k3, .int .i64 m3, .string s3, .int .i64 e3, .slice p3 l3.length cap3] 33)).alloc (Obj.cells #[.int .i64 k3, .int .i64 m3, .string s3, .int .i64 e3, .slice p3 l3.length cap3] 33)) := ((Below.refl _ _).alloc (Nat.le_refl _) _).alloc (by simp) _
          have hat8' : v'.ownBlock = v5.ownBlock ∨ v'.ownBlock = some ((w6.alloc (Obj.cells #[.int .i64 k3, .int .i64 m3, .string s3, .int .i64 e3, .slice p3 l3.length cap3] 33)).alloc (Obj.cells #[.int .i64 k3, .int .i64 m3, .string s3, .int .i64 e3, .slice p3 l3.length cap3] 33)).heap.size := by
            rw [heap_size_alloc, heap_size_alloc]
            simpa using hat8
          have hTs : TysAt (fun b => (b < wb.heap.size ∨ w2.heap.size ≤ b) ∧ some b ≠ v'.ownBlock) w8 (L ++ [([.int .i64 k3, .int .i64 m3, .string s3, .int .i64 e3, .slice p3 l3.length cap3], .mk k3 m3 s3 e3 l3)]) := by
            refine TysAt.append2 R4.out (TyAt.keep (P := fun b => b < wb.heap.size ∨ wr.heap.size ≤ b) HA3.out fun b hb _ => ⟨rfl, by omega, fun hh => ?_⟩) Hb6.out h67 hg8 hat8'
            have := hv5 b hh.symm
            omega
          have hb8 : Below w2.heap.size w2 w8 := by
            have h1 : Below w2.heap.size w2 w6 := R6.out.trans (Below.mono Hb6.out hz6)
            have h2 : Below w2.heap.size w2 _ := h1.trans (h67.mono (by omega))
            exact h2.grown hg8 h2.size (fun g hg => (hv5 g hg).1)
          have Q : Hid (∃ (L : List (List Value × Ty)), L.length = i + 1 ∧ L.map (·.2) = (l.take (i + 1)).map (Ty.put Bs) ∧ w8.ownsRow w2.heap.size 33 5 v' L.length (rowCells L) ∧ TysAt (fun b => (b < wb.heap.size ∨ w2.heap.size ≤ b) ∧ some b ≠ v'.ownBlock) w8 L ∧ Below w2.heap.size w2 w8) := by
            refine ⟨_, by simp; exact Hlen.out, ?_, ?_, hTs, hb8⟩
            · rw [List.map_append, Htk.out, R2.out, HT3.out]
              rfl
            · rw [rowCells_snoc, List.length_append]
              exact ho8
          clear ho8 hg8 hat8 hat8' hTs hb8 hrow6 hrow7 HA3 HT3 Hb6 R1 R2 R3 R4 R6 Htk h67
          go_wp2
          go_roundg (l.length - (i + 1))
          case measure => omega
          case rel => exact ⟨i + 1, _, rfl, by first | rfl | (congr 1; omega) | go_num, by omega, rfl, Q⟩
        · have hi' : ¬ (i : Int) < l.length := by omega
          have r2 := R2.out
          rw [List.take_of_length_le (by omega)] at r2
          have hTs' : TysAt (fun b => b < wb.heap.size ∨ w2.heap.size ≤ b) wr L := fun y hy => (R4.out y hy).keep fun b hb _ => ⟨rfl, hb.1⟩
          obtain ⟨pr, capr, hv, hTy⟩ := row_type R3.out hTs' (fun g hg => .inr (R3.out.lt g hg).1) Hwk.out.1 Hwk.out.2.1 Hwk.out.2.2 Hss.out
          subst hv
          rw [r2] at hTy
          have hLl : (L.map (·.2)).length = l.length := by rw [r2]; simp
          have HTy : Hid _ := hTy
          have fr4 := (HA2.out.kp (X := []) (Kp.of_below R6.out) (by simp)).frozen 4
          have hR8 : Box (wr.setCell ⟨w.heap.size, 4, none⟩ (.slice pr l.length capr)) (w.heap.size + 1) (.int .i64 0) (.int .i64 0) (.string { data := #[] }) (.int .i64 0) (.slice none 0 0) := (HR2.out.kp (X := []) (Kp.of_below R6.out) (by simp)).kp (Kp.setCell (X := [w.heap.size]) wr ⟨w.heap.size, 4, none⟩ (by simp) _) (by simp)
          have HR8 : Hid _ := hR8
          have HWr : Hid (Below w.heap.size w wr) := hWr
          clear hTy hR8 r2 hTs' hBr hWr R1 R2 R3 R4
          generalize (L.map (·.2)).length = nr at *
          subst hLl
          go_wp2_with (refine wpList_store5 rfl _ _ rfl rfl _ rfl rfl HR8.out (one5 _ _ _ _ _ _ _) ?_; intro w9 hR9 hk9)
          obtain ⟨v0, v1, v2, v3, v4⟩ := hR9.cells
          have hk79 : Kp [w.heap.size, w.heap.size + 1] wr w9 := ((Kp.setCell (X := [w.heap.size]) wr ⟨w.heap.size, 4, none⟩ (by simp) (.slice pr l.length capr)).mono (by simp)).trans (hk9.mono (by simp))
          have hW9 : Below w.heap.size w w9 := HWr.out.trans (hk79.below HWr.out.size (by simp))
          exact bodyPost_ret (v := .agg #[.int .i64 k, .int .i64 n, .string s, .int .i64 e, .slice pr l.length capr]) (by simp [results, Try.results8, go_sem, v0, v1, v2, v3, v4]) rfl (PutPost.mk k n s e (l.map (Ty.put Bs)) pr capr (by rw [List.length_map]) Hput.out (TyAt.keep (P := fun b => b < wb.heap.size ∨ w2.heap.size ≤ b) HTy.out fun b hb hlt => ⟨hk79.block b hlt (by simp; omega), by omega⟩) hW9)
end Go.Proofs.Ytbgpjaniohpfaaa
