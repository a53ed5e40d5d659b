/-
  The law Usefuls, by what the program's own Useful is said to do.
-/
import Derived.Test.YtjhfomfaddfklaaU14
import Derived.Laws.StructEq
namespace Go.Proofs.Ytjhfomfaddfklaa
open Go.RowKit Go.Deep
def UsOk (n : Nat) : Prop := ∀ (wb w : World) (m : List (List Pt)) (q : List Pt) (p : Option Addr) (cap : Nat) (p' : Option Addr) (cap' : Nat), Below wb.heap.size wb w → MatAt wb w p m → RowAt wb w p' q → m.length ≤ cap → q.length ≤ cap' → m.length * 24 ≤ 140737488355328 →
    Calls Try.prog n #[.slice p m.length cap, .slice p' q.length cap'] w fun e w' => e = .returned (.tuple #[.bool (usefulAns m q).1, .agg #[.int .i64 (usefulAns m q).2.1, .int .i64 (usefulAns m q).2.2]]) ∧ Below w.heap.size w w'
theorem usOk12 : UsOk 12 := fun wb w m q p cap p' cap' h1 h2 h3 h4 h5 h6 => Useful_any wb w m q p cap p' cap' h1 h2 h3 h4 h5 (by omega)
theorem part31 : Try.prog.underlying 31 = some (.struct (Try.prog.fieldsOf 31)) := by kernel_rfl
theorem held31 : Try.prog.stoodInHeld 31 = false := by kernel_rfl
theorem guard31 : Try.prog.eqGuardType Try.prog.depth 31 = false := by kernel_rfl
/-- Two cells of a fault. -/
def EBox (w : World) (b : Nat) (k a : Int) : Prop := w.heap[b]? = some (.cells #[.int .i64 k, .int .i64 a] 31)
theorem EBox.lt {w : World} {b : Nat} {k a : Int} (h : EBox w b k a) : b < w.heap.size := (Array.getElem?_eq_some_iff.1 h).1
theorem EBox.below {w w' : World} {b : Nat} {k a : Int} (h : EBox w b k a) (hb : Below w.heap.size w w') : EBox w' b k a := (hb.block b h.lt).trans h
theorem EBox.cells {w : World} {b : Nat} {k a : Int} (h : EBox w b k a) : w.cell? ⟨b, 0, none⟩ = some (.int .i64 k) ∧ w.cell? ⟨b, 1, none⟩ = some (.int .i64 a) ∧ b < w.heap.size := by
  have hl := h.lt
  unfold EBox at h
  refine ⟨?_, ?_, hl⟩ <;> simp [World.cell?, h]
theorem leaf (w : World) (k n o : Int) (ho : o ≤ 9223372036854775807) : PtIn w ⟨k, n, o, 0, { data := #[] }, none, 0, 0⟩ (.mk k n o 0 { data := #[] } []) :=
  PtIn.mk ⟨k, n, o, 0, { data := #[] }, none, 0, 0⟩ [] 0 0 (fun _ => PC.any) rfl (Nat.zero_le _) (Nat.le_refl _) (fun _ => rfl) ho (fun h => absurd rfl h) (fun _ hi => absurd hi (Nat.not_lt_zero _)) (fun _ hi => absurd hi (Nat.not_lt_zero _))
section
set_option maxHeartbeats 8000000
set_option maxRecDepth 100000
theorem eq31 (a b : Int) (w : World) : (binOp .eql 31 (.agg #[.int .i64 a, .int .i64 b]) (.agg #[.int .i64 a, .int .i64 b])).run Try.prog w = .ok (.bool true) w := by
  have u3 := Try.underlying3
  have u29 := Try.underlying29
  rw [run_eql_struct, show (10000 : Nat) = 9999 + 1 from rfl, run_equalIn_agg w 9999 31 _ _ part31 held31]
  simp only [Program.fieldsOf, Try.underlying31]
  go_simp
theorem con_any (n o : Int) (w : World) : Calls Try.prog 6 #[.int .i64 n, .int .i64 o] w fun e w' => e = .returned (.agg #[.int .i64 6, .int .i64 n, .int .i64 o, .int .i64 0, .string { data := #[] }, .slice none 0 0]) ∧ Below w.heap.size w w' := by
  go_enter Try.func6, Try.ntmps6
  go_wp2
  exact bodyPost_ret (v := .agg #[.int .i64 6, .int .i64 n, .int .i64 o, .int .i64 0, .string { data := #[] }, .slice none 0 0]) (by simp [results, Try.results6, go_sem]) rfl ⟨rfl, (Below.refl _ _).alloc (Nat.le_refl _) _⟩
theorem one_any (hU : UsOk 8) (wb w : World) (m : List (List Pt)) (q : List Pt) (p : Option Addr) (cap : Nat) (p' : Option Addr) (cap' : Nat) (hw : Below wb.heap.size wb w) (hM : MatAt wb w p m) (hQ : RowAt wb w p' q) (hc : m.length ≤ cap) (hc' : q.length ≤ cap') (hml : m.length * 24 ≤ 140737488355328) :
    Calls Try.prog 5 #[.slice p m.length cap, .slice p' q.length cap'] w fun e w' => e = .returned (.bool true) ∧ Below w.heap.size w w' := by
  have Hcall : Hid _ := hU wb w m q p cap p' cap' hw hM hQ hc hc' hml
  have Hcall2 : Hid (∀ wx, Below w.heap.size w wx → _) := fun wx hx => usOk12 wb wx m q p cap p' cap' (hw.trans (hx.mono hw.size)) (hM.below hx) (hQ.below hx) hc hc' hml
  generalize usefulAns m q = A at *
  obtain ⟨ab, ak, aa⟩ := A
  simp only at *
  clear hU hw hM hQ
  go_enter Try.func5, Try.ntmps5
  go_wp2_with fail
  refine Calls.mono Hcall.out ?_
  rintro e1 w1 ⟨rfl, hb1⟩
  have hE : EBox (w1.alloc (Obj.cells #[Value.int IntKind.i64 ak, Value.int IntKind.i64 aa] 31)) w1.heap.size ak aa := (MapKept.heap_alloc w1 _).1
  have hw2 : Below w.heap.size w (w1.alloc (Obj.cells #[Value.int IntKind.i64 ak, Value.int IntKind.i64 aa] 31)) := hb1.alloc hb1.size _
  have HE : Hid (EBox _ _ _ _) := hE
  have HW2 : Hid _ := hw2
  clear hE hw2 hb1 Hcall
  go_upto_region 2 with fail
  generalize w1.alloc (Obj.cells #[Value.int IntKind.i64 ak, Value.int IntKind.i64 aa] 31) = w2 at *
  generalize w1.heap.size = fb at *
  go_wp2_with fail
  refine Calls.mono (Hcall2.out w2 HW2.out) ?_
  rintro e2 w3 ⟨rfl, hb3⟩
  have hE2 : EBox (w3.alloc (Obj.cells #[Value.int IntKind.i64 ak, Value.int IntKind.i64 aa] 31)) w3.heap.size ak aa := (MapKept.heap_alloc w3 _).1
  have h34 : Below w2.heap.size w2 (w3.alloc (Obj.cells #[Value.int IntKind.i64 ak, Value.int IntKind.i64 aa] 31)) := hb3.alloc hb3.size _
  have HE1 : Hid (EBox _ _ _ _) := EBox.below HE.out h34
  have HE2 : Hid (EBox _ _ _ _) := hE2
  have HW4 : Hid (Below w.heap.size w _) := Below.then HW2.out h34 (Nat.le_refl _)
  clear hb3 hE2 h34 HE HW2 Hcall2
  go_upto_region 3 with fail
  generalize w3.alloc (Obj.cells #[Value.int IntKind.i64 ak, Value.int IntKind.i64 aa] 31) = w4 at *
  generalize w3.heap.size = gb at *
  obtain ⟨x0, x1, x2⟩ := EBox.cells HE1.out
  obtain ⟨y0, y1, y2⟩ := EBox.cells HE2.out
  have hg := guard31
  have he := eq31 ak aa
  go_wp2
  go_ret
  exact ⟨rfl, HW4.out⟩
/-- Two rows of one pattern each. -/
theorem mat_two (w : World) (b1 b2 : Nat) (c1 c2 : PC) (P1 P2 : Pt) (h1 : Cells6 w b1 0 c1) (h2 : Cells6 w b2 0 c2) (k1 : ∀ wx, PtIn wx c1 P1) (k2 : ∀ wx, PtIn wx c2 P2) (W : World) (hW : Below w.heap.size w W) (g : Nat) (hg : W.heap[g]? = some (.cells #[.slice (some ⟨b1, 0, none⟩) 1 1, .slice (some ⟨b2, 0, none⟩) 1 1] 23)) : MatAt W W (some ⟨g, 0, none⟩) [[P1], [P2]] := by
  refine ⟨by simp [maxLen], fun i hi => ?_⟩
  have hi2 : i = 0 ∨ i = 1 := by simp at hi; omega
  rcases hi2 with rfl | rfl
  · refine ⟨g, 0, some ⟨b1, 0, none⟩, 1, rfl, by simp [World.cell?, hg], Nat.le_refl _, ⟨by simp [maxLen], fun j hj => ?_⟩⟩
    obtain rfl : j = 0 := by simpa using hj
    exact ⟨b1, 0, c1, rfl, by simpa using h1.below hW, k1 W⟩
  · refine ⟨g, 0, some ⟨b2, 0, none⟩, 1, rfl, by simp [World.cell?, hg], Nat.le_refl _, ⟨by simp [maxLen], fun j hj => ?_⟩⟩
    obtain rfl : j = 0 := by simpa using hj
    exact ⟨b2, 0, c2, rfl, by simpa using h2.below hW, k2 W⟩
theorem mat_one (w : World) (b1 : Nat) (c1 : PC) (P1 : Pt) (h1 : Cells6 w b1 0 c1) (k1 : ∀ wx, PtIn wx c1 P1) (W : World) (hW : Below w.heap.size w W) (g : Nat) (hg : W.heap[g]? = some (.cells #[.slice (some ⟨b1, 0, none⟩) 1 1] 23)) : MatAt W W (some ⟨g, 0, none⟩) [[P1]] := by
  refine ⟨by simp [maxLen], fun i hi => ?_⟩
  obtain rfl : i = 0 := by simpa using hi
  refine ⟨g, 0, some ⟨b1, 0, none⟩, 1, rfl, by simp [World.cell?, hg], Nat.le_refl _, ⟨by simp [maxLen], fun j hj => ?_⟩⟩
  obtain rfl : j = 0 := by simpa using hj
  exact ⟨b1, 0, c1, rfl, by simpa using h1.below hW, k1 W⟩
theorem blocks3 (w : World) (a b c : Obj) : (((w.alloc a).alloc b).alloc c).heap[w.heap.size]? = some a ∧ (((w.alloc a).alloc b).alloc c).heap[w.heap.size + 1]? = some b ∧ (((w.alloc a).alloc b).alloc c).heap[w.heap.size + 1 + 1]? = some c ∧ Below w.heap.size w (((w.alloc a).alloc b).alloc c) := by
  have hk : ∀ (w : World) (o : Obj), (w.alloc o).heap[w.heap.size]? = some o := fun w o => (MapKept.heap_alloc w o).1
  have hb : ∀ (w : World) (o : Obj) k, k < w.heap.size → (w.alloc o).heap[k]? = w.heap[k]? := fun w o k hk => Below.heap_alloc _ _ _ hk
  have h1 := hk w a
  have h2 := hk (w.alloc a) b
  have h3 := hk ((w.alloc a).alloc b) c
  have e1 : (w.alloc a).heap.size = w.heap.size + 1 := by simp
  have e2 : ((w.alloc a).alloc b).heap.size = w.heap.size + 1 + 1 := by simp
  rw [e1] at h2
  rw [e2] at h3
  refine ⟨?_, ?_, h3, (((Below.refl _ _).alloc (Nat.le_refl _) a).alloc (by simp) b).alloc (by simp; omega) c⟩
  · rw [hb _ _ _ (by omega), hb _ _ _ (by omega), h1]
  · rw [hb _ _ _ (by omega), h2]
theorem lay3 (w : World) (b1 : Nat) (c1 c2 : PC) (P1 P2 : Pt) (h1 : Cells6 w b1 0 c1) (k1 : ∀ wx, PtIn wx c1 P1) (k2 : ∀ wx, PtIn wx c2 P2) : MatAt (((w.alloc c2.obj).alloc (.cells #[.slice (some ⟨b1, 0, none⟩) 1 1, .slice (some ⟨w.heap.size, 0, none⟩) 1 1] 23)).alloc PC.any.obj) (((w.alloc c2.obj).alloc (.cells #[.slice (some ⟨b1, 0, none⟩) 1 1, .slice (some ⟨w.heap.size, 0, none⟩) 1 1] 23)).alloc PC.any.obj) (some ⟨w.heap.size + 1, 0, none⟩) [[P1], [P2]] ∧ RowAt (((w.alloc c2.obj).alloc (.cells #[.slice (some ⟨b1, 0, none⟩) 1 1, .slice (some ⟨w.heap.size, 0, none⟩) 1 1] 23)).alloc PC.any.obj) (((w.alloc c2.obj).alloc (.cells #[.slice (some ⟨b1, 0, none⟩) 1 1, .slice (some ⟨w.heap.size, 0, none⟩) 1 1] 23)).alloc PC.any.obj) (some ⟨w.heap.size + 1 + 1, 0, none⟩) [Pt.any] ∧ Below w.heap.size w (((w.alloc c2.obj).alloc (.cells #[.slice (some ⟨b1, 0, none⟩) 1 1, .slice (some ⟨w.heap.size, 0, none⟩) 1 1] 23)).alloc PC.any.obj) := by
  obtain ⟨e1, e2, e3, e4⟩ := blocks3 w c2.obj (.cells #[.slice (some ⟨b1, 0, none⟩) 1 1, .slice (some ⟨w.heap.size, 0, none⟩) 1 1] 23) PC.any.obj
  generalize ((w.alloc c2.obj).alloc (.cells #[.slice (some ⟨b1, 0, none⟩) 1 1, .slice (some ⟨w.heap.size, 0, none⟩) 1 1] 23)).alloc PC.any.obj = W at *
  refine ⟨mat_two W b1 w.heap.size c1 c2 P1 P2 (h1.below e4) (PBox.cells e1) k1 k2 W (Below.refl _ _) _ e2, ⟨by simp [maxLen], fun i hi => ?_⟩, e4⟩
  obtain rfl : i = 0 := by simpa using hi
  exact ⟨_, 0, PC.any, rfl, by simpa using PBox.cells e3, PtIn.any W⟩
theorem lay2 (w : World) (c1 : PC) (P1 : Pt) (k1 : ∀ wx, PtIn wx c1 P1) : MatAt (((w.alloc c1.obj).alloc (.cells #[.slice (some ⟨w.heap.size, 0, none⟩) 1 1] 23)).alloc PC.any.obj) (((w.alloc c1.obj).alloc (.cells #[.slice (some ⟨w.heap.size, 0, none⟩) 1 1] 23)).alloc PC.any.obj) (some ⟨w.heap.size + 1, 0, none⟩) [[P1]] ∧ RowAt (((w.alloc c1.obj).alloc (.cells #[.slice (some ⟨w.heap.size, 0, none⟩) 1 1] 23)).alloc PC.any.obj) (((w.alloc c1.obj).alloc (.cells #[.slice (some ⟨w.heap.size, 0, none⟩) 1 1] 23)).alloc PC.any.obj) (some ⟨w.heap.size + 1 + 1, 0, none⟩) [Pt.any] ∧ Below w.heap.size w (((w.alloc c1.obj).alloc (.cells #[.slice (some ⟨w.heap.size, 0, none⟩) 1 1] 23)).alloc PC.any.obj) := by
  obtain ⟨e1, e2, e3, e4⟩ := blocks3 w c1.obj (.cells #[.slice (some ⟨w.heap.size, 0, none⟩) 1 1] 23) PC.any.obj
  generalize ((w.alloc c1.obj).alloc (.cells #[.slice (some ⟨w.heap.size, 0, none⟩) 1 1] 23)).alloc PC.any.obj = W at *
  refine ⟨mat_one W w.heap.size c1 P1 (PBox.cells e1) k1 W (Below.refl _ _) _ e2, ⟨by simp [maxLen], fun i hi => ?_⟩, e4⟩
  obtain rfl : i = 0 := by simpa using hi
  exact ⟨_, 0, PC.any, rfl, by simpa using PBox.cells e3, PtIn.any W⟩
theorem usefuls_any (hU : UsOk 8) (wb w : World) (m : List (List Pt)) (q : List Pt) (p : Option Addr) (cap : Nat) (p' : Option Addr) (cap' : Nat) (hw : Below wb.heap.size wb w) (hM : MatAt wb w p m) (hQ : RowAt wb w p' q) (hc : m.length ≤ cap) (hc' : q.length ≤ cap') (hml : m.length * 24 ≤ 140737488355328) :
    Calls Try.prog 3 #[.slice p m.length cap, .slice p' q.length cap'] w fun e w' => e = .returned (.bool true) ∧ Below w.heap.size w w' := by
  have HU : Hid (UsOk 8) := hU
  have Hlast : Hid (∀ wx, Below w.heap.size w wx → _) := fun wx hx => one_any hU wb wx m q p cap p' cap' (hw.trans (hx.mono hw.size)) (hM.below hx) (hQ.below hx) hc hc' hml
  clear hU hw hM hQ
  go_enter Try.func3, Try.ntmps3
  go_wp2_with fail
  refine (con_any 0 2 w).mono ?_
  rintro e1 w1 ⟨rfl, hb1⟩
  have Hb1 : Hid (Below w.heap.size w w1) := hb1
  clear hb1
  go_wp2_with fail
  have hc0 : Cells6 (w1.alloc (PC.obj ⟨6, 0, 2, 0, { data := #[] }, none, 0, 0⟩)) w1.heap.size 0 ⟨6, 0, 2, 0, { data := #[] }, none, 0, 0⟩ := (pbox_new w1 _).cells
  have h12 : Below w1.heap.size w1 (w1.alloc (PC.obj ⟨6, 0, 2, 0, { data := #[] }, none, 0, 0⟩)) := (Below.refl _ _).alloc (Nat.le_refl _) _
  have Hc0 : Hid (Cells6 _ _ _ _) := hc0
  have H02 : Hid (Below w.heap.size w _) := Below.then Hb1.out h12 (Nat.le_refl _)
  clear hc0 h12
  simp only [PC.obj] at Hc0 H02
  generalize w1.alloc (Obj.cells #[Value.int IntKind.i64 6, Value.int IntKind.i64 0, Value.int IntKind.i64 2, Value.int IntKind.i64 0, Value.string { data := #[] }, Value.slice none 0 0] 26) = w2 at *
  generalize w1.heap.size = b1 at *
  refine (con_any 1 2 w2).mono ?_
  rintro e2 w3 ⟨rfl, hb3⟩
  have hl := lay3 w3 b1 ⟨6, 0, 2, 0, { data := #[] }, none, 0, 0⟩ ⟨6, 1, 2, 0, { data := #[] }, none, 0, 0⟩ (.mk 6 0 2 0 { data := #[] } []) (.mk 6 1 2 0 { data := #[] } []) (Cells6.below Hc0.out hb3) (fun wx => leaf wx 6 0 2 (by decide)) (fun wx => leaf wx 6 1 2 (by decide))
  obtain ⟨hl1, hl2, hl3⟩ := hl
  have H06 : Hid (Below w.heap.size w _) := Below.then (Below.then H02.out hb3 (Nat.le_refl _)) hl3 (Nat.le_refl _)
  have Hcall : Hid _ := one_any HU.out _ _ [[.mk 6 0 2 0 { data := #[] } []], [.mk 6 1 2 0 { data := #[] } []]] [Pt.any] (some ⟨w3.heap.size + 1, 0, none⟩) 2 (some ⟨w3.heap.size + 1 + 1, 0, none⟩) 1 (Below.refl _ _) hl1 hl2 (Nat.le_refl _) (Nat.le_refl _) (by simp)
  clear hl1 hl2 hl3 hb3 Hc0
  simp only [PC.obj, PC.any, List.length_cons, List.length_nil, Nat.zero_add, Nat.reduceAdd] at Hcall H06
  go_wp2_with fail
  refine Calls.mono Hcall.out ?_
  rintro e3 w7 ⟨rfl, hb7⟩
  have H07 : Hid (Below w.heap.size w w7) := Below.then H06.out hb7 (Nat.le_refl _)
  clear hb7 Hcall H06
  go_wp2_with fail
  refine (con_any 0 2 w7).mono ?_
  rintro e4 w8 ⟨rfl, hb8⟩
  have hl := lay2 w8 ⟨6, 0, 2, 0, { data := #[] }, none, 0, 0⟩ (.mk 6 0 2 0 { data := #[] } []) (fun wx => leaf wx 6 0 2 (by decide))
  obtain ⟨hl1, hl2, hl3⟩ := hl
  have H09 : Hid (Below w.heap.size w _) := Below.then (Below.then H07.out hb8 (Nat.le_refl _)) hl3 (Nat.le_refl _)
  have Hcall : Hid _ := one_any HU.out _ _ [[.mk 6 0 2 0 { data := #[] } []]] [Pt.any] (some ⟨w8.heap.size + 1, 0, none⟩) 1 (some ⟨w8.heap.size + 1 + 1, 0, none⟩) 1 (Below.refl _ _) hl1 hl2 (Nat.le_refl _) (Nat.le_refl _) (by simp)
  clear hl1 hl2 hl3 hb8
  simp only [PC.obj, PC.any, List.length_cons, List.length_nil, Nat.zero_add] at Hcall H09
  go_wp2_with fail
  refine Calls.mono Hcall.out ?_
  rintro e5 w10 ⟨rfl, hb10⟩
  have H010 : Hid (Below w.heap.size w w10) := Below.then H09.out hb10 (Nat.le_refl _)
  clear hb10 Hcall H09
  go_wp2_with fail
  refine Calls.mono (Hlast.out w10 H010.out) ?_
  rintro e6 w11 ⟨rfl, hb11⟩
  have Q : Hid (Below w.heap.size w w11) := Below.then H010.out hb11 (Nat.le_refl _)
  clear hb11
  go_wp2
  go_ret
  exact ⟨rfl, Q.out⟩
end
end Go.Proofs.Ytjhfomfaddfklaa
