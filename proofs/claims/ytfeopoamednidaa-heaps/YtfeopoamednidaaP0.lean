/-
  The program's heap: its words in memory, in plain words; what lies at an address (end, thing, head, Kind, Tag, Len).
-/
import Derived.Test.YtfeopoamednidaaH13
namespace Go.Proofs.Ytfeopoamednidaa
open Go.RowKit Go.Deep
/-- A word: what stands in a cell of the program's heap. -/
structure Wd where
  n : Int
  moved : Int
  tag : Int
  kind : Int
  part : Int
/-- A row of words. -/
def WdAt (w : World) (b o i : Nat) (x : Wd) : Prop := w.cell? ⟨b, o + i * 5, none⟩ = some (.int .i64 x.n) ∧ w.cell? ⟨b, o + i * 5 + 1, none⟩ = some (.int .i32 x.moved) ∧ w.cell? ⟨b, o + i * 5 + 2, none⟩ = some (.int .u16 x.tag) ∧ w.cell? ⟨b, o + i * 5 + 3, none⟩ = some (.int .u8 x.kind) ∧ w.cell? ⟨b, o + i * 5 + 4, none⟩ = some (.int .u8 x.part)
structure RowW (w : World) (p : Option Addr) (l : List Wd) : Prop where
  len : l.length ≤ 1000000
  get : ∀ i (hi : i < l.length), ∃ b, p = some ⟨b, 0, none⟩ ∧ WdAt w b 0 i (l[i]'hi)
/-- The program's heap. -/
structure HpAt (w : World) (hb o : Nat) (cells first : Int) (p : Option Addr) (cap : Nat) (ws : List Wd) : Prop where
  c0 : w.cell? ⟨hb, o, none⟩ = some (.int .i64 cells)
  c1 : w.cell? ⟨hb, o + 1, none⟩ = some (.int .i64 first)
  c2 : w.cell? ⟨hb, o + 2, none⟩ = some (.slice p ws.length cap)
  row : RowW w p ws
  pos : 0 < first ∧ first ≤ 9000000000000000000
  cap : ws.length ≤ cap
theorem WdAt.kp {w w' : World} (hk : Kp [] w w') {b o i : Nat} {x : Wd} (h : WdAt w b o i x) : WdAt w' b o i x := ⟨hk.cell h.1 (by simp), hk.cell h.2.1 (by simp), hk.cell h.2.2.1 (by simp), hk.cell h.2.2.2.1 (by simp), hk.cell h.2.2.2.2 (by simp)⟩
theorem HpAt.kp {w w' : World} (hk : Kp [] w w') {hb o : Nat} {cells first : Int} {p : Option Addr} {cap : Nat} {ws : List Wd} (h : HpAt w hb o cells first p cap ws) : HpAt w' hb o cells first p cap ws :=
  ⟨hk.cell h.c0 (by simp), hk.cell h.c1 (by simp), hk.cell h.c2 (by simp), ⟨h.row.len, fun i hi => by
    obtain ⟨b, e, g⟩ := h.row.get i hi
    exact ⟨b, e, g.kp hk⟩⟩, h.pos, h.cap⟩
theorem HpAt.cells {w : World} {hb o : Nat} {cells first : Int} {p : Option Addr} {cap : Nat} {ws : List Wd} (h : HpAt w hb o cells first p cap ws) : w.cell? ⟨hb, o, none⟩ = some (.int .i64 cells) ∧ w.cell? ⟨hb, o + 1, none⟩ = some (.int .i64 first) ∧ w.cell? ⟨hb, o + 2, none⟩ = some (.slice p ws.length cap) ∧ hb < w.heap.size :=
  ⟨h.c0, h.c1, h.c2, World.block_lt_of_cell? _ _ h.c0⟩
section
set_option maxHeartbeats 8000000
set_option maxRecDepth 100000
theorem end_any (w : World) (hb o : Nat) (cells first : Int) (p : Option Addr) (cap : Nat) (ws : List Wd) (h : HpAt w hb o cells first p cap ws) :
    Calls Try.prog 22 #[.pointer (some ⟨hb, o, none⟩)] w fun e w' => e = .returned (.int .i64 (first + ws.length)) ∧ Below w.heap.size w w' := by
  obtain ⟨c0, c1, c2, c3⟩ := h.cells
  have hw : IntKind.i64.wrap (first + (ws.length : Nat)) = first + ws.length := by rw [IntKind.wrap_i64]; have := h.pos; have := h.row.len; omega
  have Q : Hid (Below w.heap.size w w) := Below.refl _ _
  have Q2 : Hid (∀ n, Below w.heap.size w (w.drewN n)) := fun n => ((Kp.refl [] w).drewN n).below (Nat.le_refl _) (by simp)
  clear h
  go_enter Try.func22, Try.ntmps22
  go_wp2_with fail
  go_quiet (fail)
  go_wp2
  exact bodyPost_ret (by simp [results, Try.results22, go_sem]) rfl ⟨rfl, Q2.out _⟩
/-- A thing lies there: its head is the word j. -/
structure Hd (ws : List Wd) (j : Nat) (x : Wd) : Prop where
  lt : j < ws.length
  get : ws[j]? = some x
  part : x.part = 2
  n : 0 ≤ x.n
  fits : j + x.n.toNat + 1 ≤ ws.length
theorem thing_any (w : World) (hb o : Nat) (cells first : Int) (p : Option Addr) (cap : Nat) (ws : List Wd) (h : HpAt w hb o cells first p cap ws) (j : Nat) (x : Wd) (hx : Hd ws j x) :
    Calls Try.prog 32 #[.pointer (some ⟨hb, o, none⟩), .int .i64 (first + j)] w fun e w' => (∃ b, p = some ⟨b, 0, none⟩ ∧ e = .returned (.slice (some ⟨b, j * 5, none⟩) (x.n.toNat + 1) (cap - j))) ∧ Below w.heap.size w w' := by
  obtain ⟨b, hp, hwd⟩ := h.row.get j hx.lt
  have he : ws[j]'hx.lt = x := by have := hx.get; rw [List.getElem?_eq_getElem hx.lt] at this; exact Option.some.inj this
  rw [he] at hwd
  subst hp
  have hl := hx.lt
  have hc := h.cap
  have hf := hx.fits
  have hpos := h.pos
  have hlen := h.row.len
  have h1 : (first + (j : Nat) < first) = False := by simp; omega
  have h2 : (first + (ws.length : Nat) ≤ first + (j : Nat)) = False := by simp; omega
  have h3 : IntKind.i64.wrap (first + (j : Nat) - first) = (j : Nat) := by rw [IntKind.wrap_i64]; omega
  have Hall : Hid (∀ wx, Kp [] w wx → (wx.cell? ⟨hb, o, none⟩ = some (.int .i64 cells) ∧ wx.cell? ⟨hb, o + 1, none⟩ = some (.int .i64 first) ∧ wx.cell? ⟨hb, o + 2, none⟩ = some (.slice (some ⟨b, 0, none⟩) ws.length cap) ∧ hb < wx.heap.size) ∧ WdAt wx b 0 j x ∧ b < wx.heap.size) := fun wx hk => by
    have hk2 := hwd.kp hk
    exact ⟨(h.kp hk).cells, hk2, World.block_lt_of_cell? _ _ hk2.1⟩
  have Hend : Hid (∀ wx, Kp [] w wx → Calls Try.prog 22 #[.pointer (some ⟨hb, o, none⟩)] wx fun e w' => e = .returned (.int .i64 (first + ws.length)) ∧ Kp [] w w') := fun wx hk => Calls.mono (end_any wx hb o cells first _ cap ws (h.kp hk)) (fun e w' g => ⟨g.1, hk.trans (Kp.of_below g.2)⟩)
  clear h hwd he
  go_enter Try.func32, Try.ntmps32
  obtain ⟨⟨e0, e1, e2, e3⟩, _⟩ := Hall.out w (Kp.refl _ _)
  go_wp2_with fail
  refine Calls.mono (Hend.out _ (Kp.refl _ _)) ?_
  rintro e w2 ⟨rfl, hk2⟩
  have Hk2 : Hid (Kp [] w w2) := hk2
  clear hk2 Hend e0 e1 e2 e3
  obtain ⟨⟨e0, e1, e2, e3⟩, ⟨g0, g1, g2, g3, g4⟩, g5⟩ := Hall.out w2 Hk2.out
  go_wp2_with fail
  simp only [Nat.zero_add] at g0 g1 g2 g3 g4
  obtain ⟨xn, xm, xt, xk, xp⟩ := x
  have hp2 := hx.part
  have hn0 := hx.n
  simp only at hp2 hn0 g0 g1 g2 g3 g4 hf
  obtain ⟨m, rfl⟩ : ∃ m : Nat, xn = m := ⟨xn.toNat, by omega⟩
  subst hp2
  have hlj : (0 : Int) < ((ws.length - j : Nat) : Int) := by omega
  have hwm : IntKind.i64.wrap ((m : Int) + 1) = ((m + 1 : Nat) : Int) := by rw [IntKind.wrap_i64]; simp at hf; omega
  have hm1 : m + 1 ≤ cap - j := by simp at hf; omega
  have Q : Hid (∀ n, Below w.heap.size w (w2.drewN n)) := fun n => (Hk2.out.trans ((Kp.refl [] w2).drewN n)).below (Nat.le_refl _) (by simp)
  clear hx hn0 Hall hf Hk2
  go_quiet (fail)
  go_wp2
  exact bodyPost_ret (by simp [results, Try.results32, go_sem]) rfl ⟨rfl, Q.out _⟩
def Wd.val (x : Wd) : Value := .agg #[.int .i64 x.n, .int .i32 x.moved, .int .u16 x.tag, .int .u8 x.kind, .int .u8 x.part]
theorem set5 {w : World} {b : Nat} {a0 a1 a2 a3 a4 : Value} (h : w.heap[b]? = some (.cells #[a0, a1, a2, a3, a4] 79)) (v0 v1 v2 v3 v4 : Value) : (((((w.setCell ⟨b, 0, none⟩ v0).setCell ⟨b, 1, none⟩ v1).setCell ⟨b, 2, none⟩ v2).setCell ⟨b, 3, none⟩ v3).setCell ⟨b, 4, none⟩ v4).heap[b]? = some (.cells #[v0, v1, v2, v3, v4] 79) := by
  simp [World.setCell, Array.getElem?_modify, h]
theorem head_any (w : World) (hb o : Nat) (cells first : Int) (p : Option Addr) (cap : Nat) (ws : List Wd) (h : HpAt w hb o cells first p cap ws) (j : Nat) (x : Wd) (hx : Hd ws j x) :
    Calls Try.prog 26 #[.pointer (some ⟨hb, o, none⟩), .int .i64 (first + j)] w fun e w' => e = .returned x.val ∧ Below w.heap.size w w' := by
  have hk1 : Kp [] w (w.alloc (.cells #[.int .i64 0, .int .i32 0, .int .u16 0, .int .u8 0, .int .u8 0] 79)) := Kp.alloc _ _ _
  have Hk1 : Hid (Kp [] w _) := hk1
  have hg1 := alloc_get w (.cells #[.int .i64 0, .int .i32 0, .int .u16 0, .int .u8 0, .int .u8 0] 79)
  have Hg1 : Hid (_ = some (Obj.cells _ _)) := hg1
  have Hcall : Hid _ := thing_any _ hb o cells first p cap ws (h.kp hk1) j x hx
  have Hrow : Hid (∀ wx, Kp [] w wx → ∀ b, p = some ⟨b, 0, none⟩ → WdAt wx b 0 j x ∧ b < wx.heap.size) := fun wx hk b hp => by
    obtain ⟨b', e, g⟩ := h.row.get j hx.lt
    rw [hp] at e
    cases e
    have he : ws[j]'hx.lt = x := by have := hx.get; rw [List.getElem?_eq_getElem hx.lt] at this; exact Option.some.inj this
    rw [he] at g
    exact ⟨g.kp hk, World.block_lt_of_cell? _ _ (g.kp hk).1⟩
  clear h hk1 hg1 hx
  go_enter Try.func26, Try.ntmps26
  go_wp2_with fail
  generalize w.alloc (.cells #[.int .i64 0, .int .i32 0, .int .u16 0, .int .u8 0, .int .u8 0] 79) = w1 at *
  refine Calls.mono Hcall.out ?_
  rintro e w2 ⟨⟨b, hp, rfl⟩, hb2⟩
  obtain ⟨⟨g0, g1, g2, g3, g4⟩, g5⟩ := Hrow.out w2 (Hk1.out.trans (Kp.of_below hb2)) b hp
  simp only [Nat.zero_add] at g0 g1 g2 g3 g4
  have hbx : w2.heap[w.heap.size]? = some (.cells #[.int .i64 0, .int .i32 0, .int .u16 0, .int .u8 0, .int .u8 0] 79) := (hb2.block _ (Array.getElem?_eq_some_iff.1 Hg1.out).1).trans Hg1.out
  have hlt := (Array.getElem?_eq_some_iff.1 hbx).1
  have hfz : ∀ i, w2.frozen? ⟨w.heap.size, i, none⟩ = false := fun i => by simp [World.frozen?, hbx]
  have hc0 : w2.cell? ⟨w.heap.size, 0, none⟩ = some (.int .i64 0) := by simp [World.cell?, hbx]
  have hc1 : w2.cell? ⟨w.heap.size, 1, none⟩ = some (.int .i32 0) := by simp [World.cell?, hbx]
  have hc2 : w2.cell? ⟨w.heap.size, 2, none⟩ = some (.int .u16 0) := by simp [World.cell?, hbx]
  have hc3 : w2.cell? ⟨w.heap.size, 3, none⟩ = some (.int .u8 0) := by simp [World.cell?, hbx]
  have hc4 : w2.cell? ⟨w.heap.size, 4, none⟩ = some (.int .u8 0) := by simp [World.cell?, hbx]
  have hf0 := hfz 0
  have hf1 := hfz 1
  have hf2 := hfz 2
  have hf3 := hfz 3
  have hf4 := hfz 4
  have hs := set5 hbx (.int .i64 x.n) (.int .i32 x.moved) (.int .u16 x.tag) (.int .u8 x.kind) (.int .u8 x.part)
  have hkk : Kp [w.heap.size] w2 (((((w2.setCell ⟨w.heap.size, 0, none⟩ (.int .i64 x.n)).setCell ⟨w.heap.size, 1, none⟩ (.int .i32 x.moved)).setCell ⟨w.heap.size, 2, none⟩ (.int .u16 x.tag)).setCell ⟨w.heap.size, 3, none⟩ (.int .u8 x.kind)).setCell ⟨w.heap.size, 4, none⟩ (.int .u8 x.part)) := ((((Kp.setCell _ ⟨w.heap.size, 0, none⟩ (by simp) _).trans (Kp.setCell _ ⟨w.heap.size, 1, none⟩ (by simp) _)).trans (Kp.setCell _ ⟨w.heap.size, 2, none⟩ (by simp) _)).trans (Kp.setCell _ ⟨w.heap.size, 3, none⟩ (by simp) _)).trans (Kp.setCell _ ⟨w.heap.size, 4, none⟩ (by simp) _)
  have Q : Hid (Below w.heap.size w _) := ((Hk1.out.trans (Kp.of_below hb2)).then hkk (by simp)).below (Nat.le_refl _) (by simp)
  have Hs : Hid (_ = some (Obj.cells _ _)) := hs
  clear Hcall Hrow hfz hbx hkk hs
  go_wp2_with fail
  generalize ((((w2.setCell ⟨w.heap.size, 0, none⟩ (.int .i64 x.n)).setCell ⟨w.heap.size, 1, none⟩ (.int .i32 x.moved)).setCell ⟨w.heap.size, 2, none⟩ (.int .u16 x.tag)).setCell ⟨w.heap.size, 3, none⟩ (.int .u8 x.kind)).setCell ⟨w.heap.size, 4, none⟩ (.int .u8 x.part) = w3 at *
  have z0 : w3.cell? ⟨w.heap.size, 0, none⟩ = some (.int .i64 x.n) := by simp [World.cell?, Hs.out]
  have z1 : w3.cell? ⟨w.heap.size, 1, none⟩ = some (.int .i32 x.moved) := by simp [World.cell?, Hs.out]
  have z2 : w3.cell? ⟨w.heap.size, 2, none⟩ = some (.int .u16 x.tag) := by simp [World.cell?, Hs.out]
  have z3 : w3.cell? ⟨w.heap.size, 3, none⟩ = some (.int .u8 x.kind) := by simp [World.cell?, Hs.out]
  have z4 : w3.cell? ⟨w.heap.size, 4, none⟩ = some (.int .u8 x.part) := by simp [World.cell?, Hs.out]
  exact bodyPost_ret (v := x.val) (by simp [results, Try.results26, go_sem, z0, z1, z2, z3, z4, Wd.val]) rfl ⟨rfl, Q.out⟩
theorem field79_3 (a b c d e : Int) (w : World) : (Instr.field 79 (.agg #[.int .i64 a, .int .i32 b, .int .u16 c, .int .u8 d, .int .u8 e]) 3).run Try.prog w = .ok (.int .u8 d) w := by kernel_rfl
theorem field79_2 (a b c d e : Int) (w : World) : (Instr.field 79 (.agg #[.int .i64 a, .int .i32 b, .int .u16 c, .int .u8 d, .int .u8 e]) 2).run Try.prog w = .ok (.int .u16 c) w := by kernel_rfl
theorem field79_0 (a b c d e : Int) (w : World) : (Instr.field 79 (.agg #[.int .i64 a, .int .i32 b, .int .u16 c, .int .u8 d, .int .u8 e]) 0).run Try.prog w = .ok (.int .i64 a) w := by kernel_rfl
theorem kind_any (w : World) (hb o : Nat) (cells first : Int) (p : Option Addr) (cap : Nat) (ws : List Wd) (h : HpAt w hb o cells first p cap ws) (j : Nat) (x : Wd) (hx : Hd ws j x) (hr : 0 ≤ x.kind ∧ x.kind < 256) :
    Calls Try.prog 17 #[.pointer (some ⟨hb, o, none⟩), .int .i64 (first + j)] w fun e w' => e = .returned (.int .i64 x.kind) ∧ Below w.heap.size w w' := by
  have hw : IntKind.i64.wrap x.kind = x.kind := by rw [IntKind.wrap_i64]; omega
  have Hcall := head_any w hb o cells first p cap ws h j x hx
  unfold Wd.val at Hcall
  have Hcall : Hid _ := Hcall
  clear h hx
  have hfl := field79_3
  go_enter Try.func17, Try.ntmps17
  go_wp2_with fail
  refine Calls.mono Hcall.out ?_
  rintro e w2 ⟨rfl, hb2⟩
  have Q : Hid (Below w.heap.size w w2) := hb2
  clear hb2 Hcall
  go_wp2
  exact bodyPost_ret (by simp [results, Try.results17, go_sem]) rfl ⟨rfl, Q.out⟩
theorem tag_any (w : World) (hb o : Nat) (cells first : Int) (p : Option Addr) (cap : Nat) (ws : List Wd) (h : HpAt w hb o cells first p cap ws) (j : Nat) (x : Wd) (hx : Hd ws j x) (hr : 0 ≤ x.tag ∧ x.tag < 65536) :
    Calls Try.prog 18 #[.pointer (some ⟨hb, o, none⟩), .int .i64 (first + j)] w fun e w' => e = .returned (.int .i64 x.tag) ∧ Below w.heap.size w w' := by
  have hw : IntKind.i64.wrap x.tag = x.tag := by rw [IntKind.wrap_i64]; omega
  have Hcall := head_any w hb o cells first p cap ws h j x hx
  unfold Wd.val at Hcall
  have Hcall : Hid _ := Hcall
  clear h hx
  have hfl := field79_2
  go_enter Try.func18, Try.ntmps18
  go_wp2_with fail
  refine Calls.mono Hcall.out ?_
  rintro e w2 ⟨rfl, hb2⟩
  have Q : Hid (Below w.heap.size w w2) := hb2
  clear hb2 Hcall
  go_wp2
  exact bodyPost_ret (by simp [results, Try.results18, go_sem]) rfl ⟨rfl, Q.out⟩
theorem len_any (w : World) (hb o : Nat) (cells first : Int) (p : Option Addr) (cap : Nat) (ws : List Wd) (h : HpAt w hb o cells first p cap ws) (j : Nat) (x : Wd) (hx : Hd ws j x) :
    Calls Try.prog 19 #[.pointer (some ⟨hb, o, none⟩), .int .i64 (first + j)] w fun e w' => e = .returned (.int .i64 x.n) ∧ Below w.heap.size w w' := by
  have Hcall := head_any w hb o cells first p cap ws h j x hx
  unfold Wd.val at Hcall
  have Hcall : Hid _ := Hcall
  clear h hx
  have hfl := field79_0
  go_enter Try.func19, Try.ntmps19
  go_wp2_with fail
  refine Calls.mono Hcall.out ?_
  rintro e w2 ⟨rfl, hb2⟩
  have Q : Hid (Below w.heap.size w w2) := hb2
  clear hb2 Hcall
  go_wp2
  exact bodyPost_ret (by simp [results, Try.results19, go_sem]) rfl ⟨rfl, Q.out⟩
end
end Go.Proofs.Ytfeopoamednidaa
