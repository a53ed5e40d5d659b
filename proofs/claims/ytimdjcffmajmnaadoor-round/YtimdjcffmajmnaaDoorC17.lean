/-
  The document's layer code: bytes read as a code (Decode).
-/
import Derived.Test.YtimdjcffmajmnaaDoorC16
import Derived.Test.YtimdjcffmajmnaaDoorReg
namespace Go.Proofs.YtimdjcffmajmnaaDoor
open Go.RowKit Go.Deep
/-- What is left where bytes were read as a code. -/
inductive DecPost (w : World) (S : ByteArray) (e : Ending) (w' : World) : Prop
  | mk (p : Option Addr) (cap : Nat) (p' : Option Addr) (cap' : Nat) (he : e = .returned (.tuple #[.agg #[.slice p (decR S).1.texts.length cap, .slice p' (decR S).1.funs.length cap'], .agg #[.int .i64 (decR S).2.1, .int .i64 (decR S).2.2]])) (hT : TextsIn w' p (decR S).1.texts) (hF : FunsIn w' p' (decR S).1.funs) (hb : Below w.heap.size w w') : DecPost w S e w'
theorem textsIn_nil (w : World) : TextsIn w none [] := ⟨by simp, fun i hi => by cases hi⟩
theorem funsIn_nil (w : World) : FunsIn w none [] := ⟨by simp, fun i hi => by cases hi⟩
theorem Dw.at {w0 w : World} {S : ByteArray} {ts : List ByteArray} {fs : List FnAt} {vt vf : Value} {r : Rs} (h : Dw w0 w S ts fs vt vf r) {cp rp : Nat} (hc : w0.heap.size + 2 = cp) (hr : w0.heap.size + 3 = rp) : RAt w rp S r ∧ (w.cell? ⟨rp, 0, none⟩ = some (.string S) ∧ w.cell? ⟨rp, 1, none⟩ = some (.int .i64 r.pos) ∧ w.cell? ⟨rp, 2, none⟩ = some (.int .i64 r.kind) ∧ w.cell? ⟨rp, 3, none⟩ = some (.int .i64 r.fat) ∧ (∀ j, w.frozen? ⟨rp, j, none⟩ = false)) ∧ (w.cell? ⟨cp, 0, none⟩ = some vt ∧ w.cell? ⟨cp, 1, none⟩ = some vf ∧ (∀ j, w.frozen? ⟨cp, j, none⟩ = false)) ∧ rp < w.heap.size ∧ cp < w.heap.size := by
  subst hc
  subst hr
  obtain ⟨h1, h2, h3⟩ := h.cells
  exact ⟨h.rd, h1, h2, by omega, by omega⟩
theorem dw_start (w : World) (S : ByteArray) : Dw w ((((w.alloc (Obj.cells #[Value.slice none 0 0, Value.slice none 0 0] 25)).alloc (Obj.cells #[Value.int IntKind.i64 0, Value.int IntKind.i64 0] 34)).alloc (Obj.cells #[Value.slice none 0 0, Value.slice none 0 0] 25)).alloc (Obj.cells #[Value.string S, Value.int IntKind.i64 0, Value.int IntKind.i64 0, Value.int IntKind.i64 0] 68)) S [] [] (.slice none 0 0) (.slice none 0 0) ⟨0, 0, 0⟩ := by
  have hk : ∀ (w : World) (o : Obj), (w.alloc o).heap[w.heap.size]? = some o := fun w o => (MapKept.heap_alloc w o).1
  have hb : ∀ (w : World) (o : Obj) k, k < w.heap.size → (w.alloc o).heap[k]? = w.heap[k]? := fun w o k hk => Below.heap_alloc _ _ _ hk
  generalize h1 : w.alloc (Obj.cells #[Value.slice none 0 0, Value.slice none 0 0] 25) = w1
  generalize h2 : w1.alloc (Obj.cells #[Value.int IntKind.i64 0, Value.int IntKind.i64 0] 34) = w2
  generalize h3 : w2.alloc (Obj.cells #[Value.slice none 0 0, Value.slice none 0 0] 25) = w3
  generalize h4 : w3.alloc (Obj.cells #[Value.string S, Value.int IntKind.i64 0, Value.int IntKind.i64 0, Value.int IntKind.i64 0] 68) = w4
  have s1 : w1.heap.size = w.heap.size + 1 := by rw [← h1]; simp
  have s2 : w2.heap.size = w.heap.size + 2 := by rw [← h2]; simp [s1]
  have s3 : w3.heap.size = w.heap.size + 3 := by rw [← h3]; simp [s2]
  have b : Below w.heap.size w w4 := by
    subst h4
    refine Below.alloc ?_ (by omega) _
    subst h3
    refine Below.alloc ?_ (by omega) _
    subst h2
    refine Below.alloc ?_ (by omega) _
    subst h1
    exact (Below.refl _ _).alloc (Nat.le_refl _) _
  refine ⟨?_, ?_, ?_, ?_, World.ownsRow_nil _ _ _ _, World.ownsRow_nil _ _ _ _, fun g hg => by simp [Value.ownBlock] at hg, (fun x hx => by cases hx), b, by simp⟩
  · rw [← h4, hb _ _ _ (by omega), ← h3, hb _ _ _ (by omega), ← h2, hb _ _ _ (by omega), ← h1, hk]
  · rw [← h4, hb _ _ _ (by omega), ← h3, hb _ _ _ (by omega), ← h2, ← s1, hk]
  · rw [← h4, hb _ _ _ (by omega), ← h3, ← s2, hk]
  · unfold RAt RBox
    rw [← h4, ← s3, hk]
    rfl
theorem Dw.read2 {w0 w w' : World} {S : ByteArray} {ts : List ByteArray} {fs : List FnAt} {vt vf : Value} {r r' : Rs} (h : Dw w0 w S ts fs vt vf r) {rp : Nat} (he : w0.heap.size + 3 = rp) (hr : RAt w' rp S r') (k : Kp [rp] w w') (hp : r'.pos ≤ 4000000) : Dw w0 w' S ts fs vt vf r' := by
  subst he
  exact h.read hr k hp
theorem Dw.drew {w0 w : World} {S : ByteArray} {ts : List ByteArray} {fs : List FnAt} {vt vf : Value} {r : Rs} (h : Dw w0 w S ts fs vt vf r) : Dw w0 w.drew S ts fs vt vf r := h.kp (X := []) (Kp.refl _ _).drew (by simp)
theorem headStep_pos (S : ByteArray) (i : Nat) (r : Rs) : (headStep S i r).pos = r.pos := by
  unfold headStep
  split
  · exact Rs.fail_pos _ _ _
  · split
    · rfl
    · exact Rs.fail_pos _ _ _
theorem below4 (w : World) (a b c d : Obj) : Below w.heap.size w ((((w.alloc a).alloc b).alloc c).alloc d) := ((((Below.refl _ _).alloc (Nat.le_refl _) a).alloc (by simp) b).alloc (by simp; omega) c).alloc (by simp; omega) d
theorem byte_ne (x y : UInt8) : ((x.toNat : Int) != (y.toNat : Int)) = !(decide (x = y)) := by
  by_cases h : x = y
  · subst h
    simp
  · have : x.toNat ≠ y.toNat := fun e => h (UInt8.toNat_inj.1 e)
    have h2 : ((x.toNat : Int) != (y.toNat : Int)) = true := by simp; omega
    rw [h2]
    simp [h]
theorem Rs.fail_kind (r : Rs) (k pl : Int) (h : r.kind = 0) : r.fail k pl = ⟨r.pos, k, pl⟩ := by unfold Rs.fail; rw [if_pos h]
theorem Dw.kpCode {X : List Nat} {w0 w w1 : World} {S : ByteArray} {ts : List ByteArray} {fs : List FnAt} {vt vf : Value} {r : Rs} (h : Dw w0 w S ts fs vt vf r) (k : Kp X w w1) (hX : ∀ x ∈ X, w0.heap.size + 4 ≤ x) {cp : Nat} (hc : w0.heap.size + 2 = cp) : w1.cell? ⟨cp, 0, none⟩ = some vt ∧ w1.cell? ⟨cp, 1, none⟩ = some vf ∧ (∀ j, w1.frozen? ⟨cp, j, none⟩ = false) ∧ cp < w1.heap.size := by
  subst hc
  have hs := h.size
  have := (k.block (w0.heap.size + 2) (by omega) (fun hx => by have := hX _ hx; omega)).trans h.code
  refine ⟨?_, ?_, fun j => ?_, by have := k.size; omega⟩ <;> simp [World.cell?, World.frozen?, this]
theorem Dw.addText2 {w0 w w1 : World} {S : ByteArray} {ts : List ByteArray} {vt : Value} {r : Rs} (h : Dw w0 w S ts [] vt (.slice none 0 0) r) {g cap : Nat} {t : ByteArray} (ho : w1.ownsRow (w0.heap.size + 4) 9 1 (.slice (some ⟨g, 0, none⟩) (ts.length + 1) cap) (ts.length + 1) (ts.map Value.string ++ [.string t])) (hg : w.grownBy w1 vt.ownBlock) {cp : Nat} (hc : w0.heap.size + 2 = cp) :
    Dw w0 (w1.setCell ⟨cp, 0, none⟩ (.slice (some ⟨g, 0, none⟩) (ts.length + 1) cap)) S (ts ++ [t]) [] (.slice (some ⟨g, 0, none⟩) (ts.length + 1) cap) (.slice none 0 0) r := by
  subst hc
  exact h.addText ho hg
theorem Dw.alloc {w0 w : World} {S : ByteArray} {ts : List ByteArray} {fs : List FnAt} {vt vf : Value} {r : Rs} (h : Dw w0 w S ts fs vt vf r) (o : Obj) : Dw w0 (w.alloc o) S ts fs vt vf r := h.kp (X := []) (Kp.alloc _ _ _) (by simp)
theorem Dw.addFun2 {w0 w w1 : World} {S : ByteArray} {ts : List ByteArray} {r : Rs} {fs : List FnAt} {vt vf : Value} (x : FnAt) (h : Dw w0 w S ts fs vt vf r) (hI : InsIn w x.q x.f.ins) (hq : ∀ b, x.q = some b → Apart w0.heap.size vt vf fs b.block ∧ b.block < w.heap.size) {g cap : Nat} (ho : w1.ownsRow (w0.heap.size + 4) 50 3 (.slice (some ⟨g, 0, none⟩) (fs.length + 1) cap) (fs.length + 1) (fnRow fs ++ [.int .i64 x.f.free, .int .i64 x.f.slots, .slice x.q x.f.ins.length x.cap])) (hg : w.grownBy w1 vf.ownBlock) (hat : vf.ownBlock = some g ∨ g = w.heap.size) {cp : Nat} (hc : w0.heap.size + 2 = cp) :
    Dw w0 (w1.setCell ⟨cp, 1, none⟩ (.slice (some ⟨g, 0, none⟩) (fs.length + 1) cap)) S ts (fs ++ [x]) vt (.slice (some ⟨g, 0, none⟩) (fs.length + 1) cap) r := by
  subst hc
  exact h.addFun hI hq ho hg hat
theorem Fw.start {w0 w : World} {S : ByteArray} {ts : List ByteArray} {r : Rs} {fs : List FnAt} {vt vf : Value} (h : Dw w0 w S ts fs vt vf r) (free slots : Int) : Fw w0 (w.alloc (Obj.cells #[.int .i64 free, .int .i64 slots, .slice none 0 0] 50)) fs vt vf w.heap.size free slots (.slice none 0 0) [] :=
  ⟨(MapKept.heap_alloc w _).1, World.ownsRow_nil _ _ _ _, h.new _ (Nat.le_refl _), fun g hg => by simp [Value.ownBlock] at hg⟩
theorem cells3_new (w : World) (c0 c1 c2 : Value) (t : TypeId) : ∀ j u, [c0, c1, c2][j]? = some u → (w.alloc (.cells #[c0, c1, c2] t)).cell? ((⟨w.heap.size, 0, none⟩ : Addr).add j) = some u := by
  intro j u hj
  have hlt : j < 3 := by
    have := (List.getElem?_eq_some_iff.1 hj).1
    simpa using this
  match j, hlt, hj with
  | 0, _, hj => simp at hj; subst hj; simp [Addr.add]
  | 1, _, hj => simp at hj; subst hj; simp [Addr.add]
  | 2, _, hj => simp at hj; subst hj; simp [Addr.add]
theorem one3 (a b c : Int) : ∀ u ∈ [Value.int .i64 a, .int .i64 b, .int .i64 c], u.oneCell' = true := by
  intro u hu
  simp only [List.mem_cons, List.not_mem_nil, or_false] at hu
  rcases hu with rfl | rfl | rfl <;> rfl
theorem one3s (a b : Int) (p : Option Addr) (n cap : Nat) : ∀ u ∈ [Value.int .i64 a, .int .i64 b, .slice p n cap], u.oneCell' = true := by
  intro u hu
  simp only [List.mem_cons, List.not_mem_nil, or_false] at hu
  rcases hu with rfl | rfl | rfl <;> rfl
theorem Dw.ans {w0 w : World} {S : ByteArray} {ts : List ByteArray} {fs : List FnAt} {vt vf : Value} {r : Rs} (h : Dw w0 w S ts fs vt vf r) {a0 a1 : Nat} (h0 : w0.heap.size = a0) (h1 : w0.heap.size + 1 = a1) : w.cell? ⟨a0, 0, none⟩ = some (.slice none 0 0) ∧ w.cell? ⟨a0, 1, none⟩ = some (.slice none 0 0) ∧ w.cell? ⟨a1, 0, none⟩ = some (.int .i64 0) ∧ w.cell? ⟨a1, 1, none⟩ = some (.int .i64 0) ∧ (∀ j, w.frozen? ⟨a0, j, none⟩ = false) ∧ (∀ j, w.frozen? ⟨a1, j, none⟩ = false) ∧ a0 < w.heap.size ∧ a1 < w.heap.size := by
  subst h0
  subst h1
  have hs := h.size
  have g0 := h.two
  have g1 := h.three
  refine ⟨?_, ?_, ?_, ?_, fun j => ?_, fun j => ?_, by omega, by omega⟩ <;> simp [World.cell?, World.frozen?, g0, g1]
theorem Dw.set {w0 w : World} {S : ByteArray} {ts : List ByteArray} {fs : List FnAt} {vt vf : Value} {r : Rs} (h : Dw w0 w S ts fs vt vf r) {a0 a1 : Nat} (h0 : w0.heap.size = a0) (h1 : w0.heap.size + 1 = a1) (x0 x1 y0 y1 : Value) : (((((w.setCell ⟨a0, 0, none⟩ x0).setCell ⟨a0, 1, none⟩ x1).setCell ⟨a1, 0, none⟩ y0).setCell ⟨a1, 1, none⟩ y1).cell? ⟨a0, 0, none⟩ = some x0 ∧ ((((w.setCell ⟨a0, 0, none⟩ x0).setCell ⟨a0, 1, none⟩ x1).setCell ⟨a1, 0, none⟩ y0).setCell ⟨a1, 1, none⟩ y1).cell? ⟨a0, 1, none⟩ = some x1 ∧ ((((w.setCell ⟨a0, 0, none⟩ x0).setCell ⟨a0, 1, none⟩ x1).setCell ⟨a1, 0, none⟩ y0).setCell ⟨a1, 1, none⟩ y1).cell? ⟨a1, 0, none⟩ = some y0 ∧ ((((w.setCell ⟨a0, 0, none⟩ x0).setCell ⟨a0, 1, none⟩ x1).setCell ⟨a1, 0, none⟩ y0).setCell ⟨a1, 1, none⟩ y1).cell? ⟨a1, 1, none⟩ = some y1) ∧ Kp [a0, a1] w ((((w.setCell ⟨a0, 0, none⟩ x0).setCell ⟨a0, 1, none⟩ x1).setCell ⟨a1, 0, none⟩ y0).setCell ⟨a1, 1, none⟩ y1) := by
  subst h0
  subst h1
  have g0 := h.two
  have g1 := h.three
  have k1 : Kp [w0.heap.size, w0.heap.size + 1] w (w.setCell ⟨w0.heap.size, 0, none⟩ x0) := Kp.setCell _ ⟨w0.heap.size, 0, none⟩ (by simp) _
  refine ⟨⟨?_, ?_, ?_, ?_⟩, ((k1.trans (Kp.setCell _ ⟨w0.heap.size, 1, none⟩ (by simp) _)).trans (Kp.setCell _ ⟨w0.heap.size + 1, 0, none⟩ (by simp) _)).trans (Kp.setCell _ ⟨w0.heap.size + 1, 1, none⟩ (by simp) _)⟩ <;> simp [World.cell?, World.setCell, Array.getElem?_modify, g0, g1]
theorem Dw.done {w0 w W : World} {S : ByteArray} {ts : List ByteArray} {fs : List FnAt} {vt vf : Value} {r : Rs} (h : Dw w0 w S ts fs vt vf r) {a0 a1 : Nat} (h0 : w0.heap.size = a0) (h1 : w0.heap.size + 1 = a1) (k : Kp [a0, a1] w W) (hl1 : ts.length ≤ 65535) (hl2 : fs.length ≤ 65535) : Below w0.heap.size w0 W ∧ ∃ p cap p' cap', vt = .slice p ts.length cap ∧ vf = .slice p' fs.length cap' ∧ TextsIn W p ts ∧ FunsIn W p' (fs.map FnAt.f) := by
  have hx : ∀ g, w0.heap.size + 4 ≤ g → g ∉ [a0, a1] := fun g hg => by simp; omega
  have hr1 := ownsRow.kp h.rows k (fun g hg => hx g (h.rows.lt g hg).1)
  have hr2 := ownsRow.kp h.rowf k (fun g hg => hx g (h.rowf.lt g hg).1)
  obtain ⟨p, cap, e1, t1⟩ := textsIn_row hr1 (by omega)
  obtain ⟨p', cap', e2, t2⟩ := funsIn_row hr2 (by omega) (fun x hm => (h.ins x hm).1.kp k (fun b hb => hx _ ((h.ins x hm).2 b hb).1))
  exact ⟨h.keep.trans (k.below h.keep.size (by simp; omega)), p, cap, p', cap', e1, e2, t1, t2⟩
theorem infos42 : (Tryd.prog.info? 47).map (fun i => (i.zero, i.size, i.bytes)) = some (some (.agg #[.int .i64 0, .int .i64 0, .int .i64 0]), 3, 24) := by kernel_rfl
theorem slice43 : Tryd.prog.underlying 48 = some (.slice 47) := by kernel_rfl
theorem infos45 : (Tryd.prog.info? 50).map (fun i => (i.zero, i.size, i.bytes)) = some (some (.agg #[.int .i64 0, .int .i64 0, .slice none 0 0]), 3, 40) := by kernel_rfl
theorem slice23 : Tryd.prog.underlying 23 = some (.slice 50) := by kernel_rfl
theorem infos9 : (Tryd.prog.info? 9).map (fun i => (i.zero, i.size, i.bytes)) = some (some (.string { data := #[] }), 1, 16) := by kernel_rfl
theorem slice22 : Tryd.prog.underlying 22 = some (.slice 9) := by kernel_rfl
section
set_option maxHeartbeats 8000000
set_option maxRecDepth 100000
theorem decode_any (w : World) (S : ByteArray) : Calls Tryd.prog 11 #[.string S] w fun e w' => DecPost w S e w' := by
  by_cases hbig : 4000000 < S.size
  · have hb' : (4000000 : Int) < S.size := by omega
    have hR : decR S = (⟨[], []⟩, 1, 0) := by unfold decR; rw [if_pos hbig]
    have hbl := (dw_start w S).keep
    have Hbl : Hid _ := hbl
    have Hpost : Hid (∀ w', Below w.heap.size w w' → DecPost w S (.returned (.tuple #[.agg #[.slice none 0 0, .slice none 0 0], .agg #[.int .i64 1, .int .i64 0]])) w') := fun w' hw => DecPost.mk none 0 none 0 (by rw [hR]; rfl) (by rw [hR]; exact textsIn_nil _) (by rw [hR]; exact funsIn_nil _) hw
    clear hbl hR hbig Hbl
    go_enter Tryd.func11, Tryd.ntmps11
    go_wp2
    refine bodyPost_ret (v := .tuple #[.agg #[.slice none 0 0, .slice none 0 0], .agg #[.int .i64 1, .int .i64 0]]) ?_ rfl (Hpost.out _ (below4 _ _ _ _ _))
    simp [results, Tryd.results11, go_sem]
  · have hS : S.size ≤ 4000000 := by omega
    have hb' : ¬ (4000000 : Int) < S.size := by omega
    have Hw : Hid _ := dw_start w S
    have HR : Hid (decR S = decHead S (headR S 3 0 ⟨0, 0, 0⟩)) := by unfold Hid decR; rw [if_neg hbig]
    clear hbig
    go_enter Tryd.func11, Tryd.ntmps11
    go_upto_block 0 with fail
    generalize (((w.alloc (Obj.cells #[Value.slice none 0 0, Value.slice none 0 0] 25)).alloc (Obj.cells #[Value.int IntKind.i64 0, Value.int IntKind.i64 0] 34)).alloc (Obj.cells #[Value.slice none 0 0, Value.slice none 0 0] 25)).alloc (Obj.cells #[Value.string S, Value.int IntKind.i64 0, Value.int IntKind.i64 0, Value.int IntKind.i64 0] 68) = w4 at *
    generalize hrp : w.heap.size + 1 + 1 + 1 = rp
    generalize hcp : w.heap.size + 1 + 1 = cp
    generalize ha1 : w.heap.size + 1 = a1
    generalize ha0 : w.heap.size = a0
    have Hrp : Hid (w.heap.size + 3 = rp) := hrp
    have Hcp : Hid (w.heap.size + 2 = cp) := hcp
    have Ha1 : Hid (w.heap.size + 1 = a1) := ha1
    have Ha0 : Hid (w.heap.size = a0) := ha0
    clear hrp hcp ha1 ha0 hb'
    obtain ⟨R0, hR0⟩ : ∃ R0, R0 = headR S 3 0 ⟨0, 0, 0⟩ := ⟨_, rfl⟩
    have HR0 : Hid (headR S 3 0 ⟨0, 0, 0⟩ = R0) := hR0.symm
    rw [← hR0] at HR
    clear hR0
    go_cut [] from 25 to 55 (fun wx => Hid (Dw w wx S [] [] (.slice none 0 0) (.slice none 0 0) R0))
    case first =>
      go_wp2_with fail
      go_loopg [7] 3 (fun g iv wr => ∃ (i : Nat), iv = .int .i64 i ∧ i ≤ 3 ∧ g = 3 - i ∧ Hid (∃ r, headR S (3 - i) i r = R0 ∧ Dw w wr S [] [] (.slice none 0 0) (.slice none 0 0) r))
      case atStart => exact ⟨0, rfl, by omega, by omega, _, HR0.out, Hw.out⟩
      case round =>
        clear HR0 Hw
        obtain ⟨i, rfl, hi1, rfl, HR1⟩ := hrel
        obtain ⟨r, q1, q2⟩ := HR1.out
        clear HR1
        obtain ⟨x0, ⟨x1, x2, x3, x4, x5⟩, ⟨y1, y2, y3⟩, z1, z2⟩ := q2.at Hcp.out Hrp.out
        have Q2 : Hid _ := q2
        clear q2 y1 y2 y3 z2 x1 x4 x5 x2
        by_cases hi : i < 3
        · have hi' : (i : Int) < 3 := by omega
          by_cases hk : r.kind = 0
          · have hk' : (r.kind == 0) = true := by simpa using hk
            have q3 : headR S (3 - (i + 1)) (i + 1) (headStep S i r) = R0 := by
              rw [← q1, show 3 - i = (3 - (i + 1)) + 1 by omega, headR, if_pos hk]
            have hp := Q2.out.pos
            have Q3 : Hid (headR S (3 - (i + 1)) (i + 1) (headStep S i r) = R0) := q3
            by_cases hge : S.size ≤ i
            · have hge' : (S.size : Int) ≤ i := by omega
              have Hst : Hid (headStep S i r = r.fail 16 i) := by unfold Hid headStep; rw [if_pos hge]
              have Hcall : Hid _ := failR wr rp S r 16 i x0
              clear q1 q3 hge hk
              go_wp2_with fail
              refine Calls.mono Hcall.out ?_
              rintro e1 w5 ⟨rfl, h5, hk5⟩
              have Q : Hid (∃ r, headR S (3 - (i + 1)) (i + 1) r = R0 ∧ Dw w w5 S [] [] (.slice none 0 0) (.slice none 0 0) r) := ⟨_, Q3.out, Dw.read2 Q2.out Hrp.out (by rw [Hst.out]; exact h5) hk5 (by rw [headStep_pos]; exact hp)⟩
              clear h5 hk5 Hcall Q2 Q3 Hst x0 x3
              go_wp2
              go_roundg (3 - (i + 1))
              case measure => omega
              case rel => exact ⟨i + 1, by first | rfl | (congr 1; omega) | go_num, by omega, rfl, Q⟩
            · have hge' : ¬ (S.size : Int) ≤ i := by omega
              have hix : i < S.size := by omega
              have hin : 0 ≤ (i : Int) ∧ (i : Int) < S.size := by omega
              have hixx : ((i : Int)).toNat < S.size := by omega
              have hbe : byteAt S i = S[((i : Int)).toNat]'hixx := byteAt_eq S _ _ hixx (by omega)
              have Qd := Q2.out.drew
              obtain ⟨v0, ⟨v1, v2, v3, v4, v5⟩, _, t1, t2⟩ := Qd.at Hcp.out Hrp.out
              obtain ⟨c, hc⟩ : ∃ c, c = decide (byteAt S i = headAt i) := ⟨_, rfl⟩
              have Hc : Hid (c = decide (byteAt S i = headAt i)) := hc
              have QD : Hid _ := Qd
              have V0 : Hid _ := v0
              clear q1 q3 hk Qd v0 v1 v2 v3 v4 v5 hc
              go_upto_region 11 with fail
              go_cut [45] from 25 to 55 (fun cv wx => Hid (cv = .bool (!c) ∧ wx = wr.drew))
              case first =>
                rw [hbe] at Hc
                have hcase : i = 0 ∨ (i = 1 ∧ (1 : Int) < S.size) ∨ (i = 2 ∧ (2 : Int) < S.size) := by omega
                rcases hcase with rfl | ⟨rfl, hl1⟩ | ⟨rfl, hl1⟩
                all_goals
                  go_region
                  all_goals
                    go_wp2_with fail
                    go_meet
                    refine ⟨?_, rfl⟩
                    rw [Hc.out]
                    exact congrArg Value.bool (byte_ne _ _)
              case rest =>
                obtain ⟨rfl, hw⟩ := hcut.out
                subst hw
                clear hcut
                cases c with
                | true =>
                  have hby : byteAt S i = headAt i := by have := Hc.out; simpa using this.symm
                  have Hst : Hid (headStep S i r = r) := by unfold Hid headStep; rw [if_neg hge, if_pos hby]
                  have Q : Hid (∃ r, headR S (3 - (i + 1)) (i + 1) r = R0 ∧ Dw w wr.drew S [] [] (.slice none 0 0) (.slice none 0 0) r) := ⟨r, by rw [← Q3.out, Hst.out], QD.out⟩
                  clear hge hby hbe Q2 Q3 Hst QD V0 x0
                  go_wp2
                  go_roundg (3 - (i + 1))
                  case measure => omega
                  case rel => exact ⟨i + 1, by first | rfl | (congr 1; omega) | go_num, by omega, rfl, Q⟩
                | false =>
                  have hby : ¬ byteAt S i = headAt i := by have := Hc.out; simpa using this.symm
                  have Hst : Hid (headStep S i r = r.fail 15 i) := by unfold Hid headStep; rw [if_neg hge, if_neg hby]
                  have Hcall : Hid _ := failR wr.drew rp S r 15 i V0.out
                  clear hge hby hbe
                  go_wp2_with fail
                  refine Calls.mono Hcall.out ?_
                  rintro e1 w5 ⟨rfl, h5, hk5⟩
                  have Q : Hid (∃ r, headR S (3 - (i + 1)) (i + 1) r = R0 ∧ Dw w w5 S [] [] (.slice none 0 0) (.slice none 0 0) r) := ⟨_, Q3.out, Dw.read2 QD.out Hrp.out (by rw [Hst.out]; exact h5) hk5 (by rw [headStep_pos]; exact hp)⟩
                  clear h5 hk5 Hcall Q2 Q3 Hst x0 x3 QD V0
                  go_wp2
                  go_roundg (3 - (i + 1))
                  case measure => omega
                  case rel => exact ⟨i + 1, by first | rfl | (congr 1; omega) | go_num, by omega, rfl, Q⟩
          · have hk' : (r.kind == 0) = false := by simpa using hk
            have e : r = R0 := by
              rw [← q1, show 3 - i = (3 - (i + 1)) + 1 by omega, headR, if_neg hk]
            subst e
            clear q1 hk
            go_wp2
            go_meet
            exact Q2.out
        · have hi' : ¬ (i : Int) < 3 := by omega
          obtain rfl : i = 3 := by omega
          have e : r = R0 := q1
          subst e
          clear q1
          go_wp2
          go_meet
          exact Q2.out
    case rest =>
      have Hd : Hid _ := hcut.out
      clear hcut HR0 Hw
      obtain ⟨x0, ⟨x1, x2, x3, x4, x5⟩, ⟨y1, y2, y3⟩, z1, z2⟩ := Hd.out.at Hcp.out Hrp.out
      have f1 := x5 1
      have Hm : Hid (RAt (wc.setCell ⟨rp, 1, none⟩ (.int .i64 3)) rp S ⟨3, R0.kind, R0.fat⟩ ∧ Dw w (wc.setCell ⟨rp, 1, none⟩ (.int .i64 3)) S [] [] (.slice none 0 0) (.slice none 0 0) ⟨3, R0.kind, R0.fat⟩) := by
        have h1 : RAt (wc.setCell ⟨rp, 1, none⟩ (.int .i64 3)) rp S ⟨3, R0.kind, R0.fat⟩ := RBox.move x0 3
        exact ⟨h1, Hd.out.read2 Hrp.out h1 (Kp.setCell wc ⟨rp, 1, none⟩ (by simp) _) (by simp)⟩
      have Hcall : Hid _ := number_any _ rp S ⟨3, R0.kind, R0.fat⟩ 2 (by omega) Hm.out.1 hS (by simp)
      have HR1 : Hid (decR S = decTexts S (Rs.num S 2 ⟨3, R0.kind, R0.fat⟩)) := HR.out
      clear x0 x1 x3 x4 x5 y1 y2 y3 HR
      go_wp2_with fail
      refine Calls.mono Hcall.out ?_
      rintro e1 w5 ⟨rfl, h5, hk5⟩
      have hn := Rs.num_range S 2 ⟨3, R0.kind, R0.fat⟩
      have hp5 := Rs.num_pos S 2 ⟨3, R0.kind, R0.fat⟩ hS (by simp)
      generalize Rs.num S 2 ⟨3, R0.kind, R0.fat⟩ = N at *
      obtain ⟨nv, r5⟩ := N
      simp only [Int.reducePow] at *
      obtain ⟨n, rfl⟩ : ∃ n : Nat, nv = n := ⟨nv.toNat, by omega⟩
      have hn2 : n < 65536 := by omega
      have Hd5 : Hid (Dw w w5 S [] [] (.slice none 0 0) (.slice none 0 0) r5) := Hm.out.2.read2 Hrp.out h5 hk5 hp5
      obtain ⟨T, hT⟩ : ∃ T, textsR S n ([], r5) = T := ⟨_, rfl⟩
      have HR2 : Hid (decR S = decFuns S T.1 (T.2.num S 2)) := by unfold Hid; rw [HR1.out, ← hT]; rfl
      have HT : Hid (textsR S n ([], r5) = T) := hT
      clear h5 hk5 hn hp5 hT Hm Hd HR1 Hcall x2 f1
      go_upto_block 3 with fail
      go_cut [] from 61 to 132 (fun wx => Hid (∃ vt, Dw w wx S T.1 [] vt (.slice none 0 0) T.2 ∧ T.1.length ≤ 65535))
      case first =>
        go_wp2_with fail
        go_loopg [9] n (fun g iv wr => ∃ (i : Nat), iv = .int .i64 i ∧ i ≤ n ∧ g = n - i ∧ Hid (∃ ts r vt, textsR S (n - i) (ts, r) = T ∧ Dw w wr S ts [] vt (.slice none 0 0) r ∧ ts.length ≤ i))
        case atStart => exact ⟨0, rfl, by omega, by omega, [], r5, _, HT.out, Hd5.out, by simp⟩
        case round =>
          clear HT Hd5
          obtain ⟨i, rfl, hi1, rfl, HR1⟩ := hrel
          obtain ⟨ts, r, vt, q1, q2, q4⟩ := HR1.out
          clear HR1
          obtain ⟨x0, ⟨x1, x2, x3, x4, x5⟩, ⟨y1, y2, y3⟩, z1, z2⟩ := q2.at Hcp.out Hrp.out
          have Q2 : Hid (Dw w wr S ts [] vt (.slice none 0 0) r) := q2
          clear y1 y2 y3 x1 x4 x5
          by_cases hi : i < n
          · have hi' : (i : Int) < n := by omega
            by_cases hk : r.kind = 0
            · have hk' : (r.kind == 0) = true := by simpa using hk
              have hp := Q2.out.pos
              have q3 : textsR S (n - (i + 1)) (textTake S ts r.pos (r.num S 1).1 (r.num S 1).2) = T := by
                rw [← q1, show n - i = (n - (i + 1)) + 1 by omega, textsR, if_pos hk]
                rfl
              have Hcall : Hid _ := number_any wr rp S r 1 (by omega) x0 hS hp
              have hkr := r.num_range S 1
              have hp6 := r.num_pos S 1 hS hp
              clear q1 q2 hk x0
              go_wp2_with fail
              refine Calls.mono Hcall.out ?_
              rintro e1 w6 ⟨rfl, h6, hk6⟩
              generalize r.num S 1 = N at *
              obtain ⟨kv, r6⟩ := N
              simp only [Int.reducePow] at *
              obtain ⟨k, rfl⟩ : ∃ k : Nat, kv = k := ⟨kv.toNat, by omega⟩
              have hk2 : k < 256 := by omega
              have Hd6 : Hid (Dw w w6 S ts [] vt (.slice none 0 0) r6) := Q2.out.read2 Hrp.out h6 hk6 hp6
              have H6 : Hid (RAt w6 rp S r6) := h6
              obtain ⟨_, ⟨x1, x2, x3, x4, x5⟩, ⟨y1, y2, y3⟩, z1, z2⟩ := Hd6.out.at Hcp.out Hrp.out
              have QR : Hid (∀ ts' r', textTake S ts r.pos k r6 = (ts', r') → textsR S (n - (i + 1)) (ts', r') = T) := fun ts' r' h => by rw [← h]; exact q3
              clear q3 h6 hk6 Hcall Q2 hkr x1 x4
              by_cases hk7 : r6.kind = 0
              · have hk7' : (r6.kind != 0) = false := by simpa using hk7
                by_cases h200 : 200 < k
                · have h200' : (200 : Int) < k := by omega
                  have HF : Hid (textTake S ts r.pos k r6 = (ts, r6.fail 17 r.pos)) := by unfold Hid textTake; rw [if_pos hk7, if_pos h200']
                  have Hcall : Hid _ := failR w6 rp S r6 17 r.pos H6.out
                  clear hk7 x5 y1 y2 y3
                  go_wp2_with fail
                  refine Calls.mono Hcall.out ?_
                  rintro e1 w7 ⟨rfl, h7, hk7⟩
                  have Q : Hid (∃ ts r vt, textsR S (n - (i + 1)) (ts, r) = T ∧ Dw w w7 S ts [] vt (.slice none 0 0) r ∧ ts.length ≤ i + 1) := ⟨ts, _, vt, QR.out _ _ HF.out, Hd6.out.read2 Hrp.out h7 hk7 (by rw [Rs.fail_pos]; exact hp6), by omega⟩
                  clear QR Hd6 H6 h7 hk7 Hcall HF
                  go_wp2
                  go_roundg (n - (i + 1))
                  case measure => omega
                  case rel => exact ⟨i + 1, by first | rfl | (congr 1; omega) | go_num, by omega, rfl, Q⟩
                · have h200' : ¬ (200 : Int) < k := by omega
                  by_cases hlen : (S.size : Int) - r6.pos < k
                  · have HF : Hid (textTake S ts r.pos k r6 = (ts, r6.fail 16 S.size)) := by unfold Hid textTake; rw [if_pos hk7, if_neg h200', if_pos hlen]
                    have Hcall : Hid _ := failR w6 rp S r6 16 S.size H6.out
                    clear hk7 x5 y1 y2 y3
                    go_wp2_with fail
                    refine Calls.mono Hcall.out ?_
                    rintro e1 w7 ⟨rfl, h7, hk7⟩
                    have Q : Hid (∃ ts r vt, textsR S (n - (i + 1)) (ts, r) = T ∧ Dw w w7 S ts [] vt (.slice none 0 0) r ∧ ts.length ≤ i + 1) := ⟨ts, _, vt, QR.out _ _ HF.out, Hd6.out.read2 Hrp.out h7 hk7 (by rw [Rs.fail_pos]; exact hp6), by omega⟩
                    clear QR Hd6 H6 h7 hk7 Hcall HF
                    go_wp2
                    go_roundg (n - (i + 1))
                    case measure => omega
                    case rel => exact ⟨i + 1, by first | rfl | (congr 1; omega) | go_num, by omega, rfl, Q⟩
                  · have HF : Hid (textTake S ts r.pos k r6 = (ts ++ [S.extract r6.pos (r6.pos + k)], ⟨r6.pos + k, r6.kind, r6.fat⟩)) := by unfold Hid textTake; rw [if_pos hk7, if_neg h200', if_neg hlen]; rfl
                    have Qd := Hd6.out.drew
                    obtain ⟨v0, ⟨v1, v2, v3, v4, v5⟩, ⟨t1, t2, t3⟩, t4, t5⟩ := Qd.at Hcp.out Hrp.out
                    have hw1 : IntKind.i64.wrap ((r6.pos : Int) + (k : Int)) = (r6.pos : Int) + (k : Int) := IntWalk.i64_in _ (by omega)
                    have g3 := t3 0
                    have hrow := Qd.rows
                    have hsz := Hd6.out.size
                    have HQd : Hid (Dw w w6.drew S ts [] vt (.slice none 0 0) r6) := Qd
                    have Hgr : Hid (∀ (o : Obj) w9, (w6.drew.alloc o).grownBy w9 vt.ownBlock → w9.cell? ⟨cp, 0, none⟩ = some vt ∧ w9.frozen? ⟨cp, 0, none⟩ = false) := fun o w9 hg => by
                      have hd := HQd.out.alloc o
                      obtain ⟨m1, _, m3, _⟩ := hd.kpCode (kp_grown hg) (fun x hx => (hd.rows.lt x (by simpa using hx)).1) Hcp.out
                      exact ⟨m1, m3 0⟩
                    clear hk7 v0 v1 v3 v4 v5 t2 x5 y2 y3 t3
                    obtain ⟨i0, hi0, hzz0, hzz1, hzz2⟩ := info_parts infos9
                    go_upto_region 20 with fail
                    have hsl : (0 : Int) ≤ r6.pos ∧ (r6.pos : Int) ≤ (r6.pos : Int) + (k : Int) ∧ (r6.pos : Int) + (k : Int) ≤ S.size := by omega
                    go_cut [] from 61 to 132 (fun wx => Hid (∃ vt', Dw w wx S (ts ++ [S.extract r6.pos (r6.pos + k)]) [] vt' (.slice none 0 0) r6))
                    case first =>
                      go_region_law ((refine step_append_lies _ (by rfl) (.tmp 81) (.tmp 94) 22 (by rfl) (w.heap.size + 4) 9 i0 (.string { data := #[] }) 1 16 slice22 hi0 hzz0 hzz1 hzz2 rfl (by decide) vt ts.length (ts.map Value.string) (by rfl) (hrow.alloc _) ⟨w6.heap.size, 0, none⟩ 1 1 [.string (S.extract r6.pos (r6.pos + k))] (by rfl) rfl (cell_one_new w6.drew _ _) (by simp [Value.oneCell']) (by decide) (by unfold maxLen; omega) (by omega) (by simp; omega) (w6.heap.size + 1) (by simp) ?_; intro g9 cap9 w9 ho9 hg9 hat9 hlt9; obtain ⟨m1, m2⟩ := Hgr.out _ w9 hg9))
                      all_goals
                        go_wp2_with fail
                        go_meet
                        exact ⟨_, (HQd.out.alloc (Obj.cells #[Value.string (S.extract r6.pos (r6.pos + k))] 9)).addText2 ho9 hg9 Hcp.out⟩
                    case rest =>
                      obtain ⟨vt', hD9⟩ := hcut.out
                      clear hcut
                      have HD9 : Hid _ := hD9
                      obtain ⟨f0, ⟨f1, f2, f3, f4, f5⟩, _, f6, f7⟩ := hD9.at Hcp.out Hrp.out
                      have f51 := f5 1
                      have h8 : RAt (wc.setCell ⟨rp, 1, none⟩ (.int .i64 ((r6.pos : Int) + (k : Int)))) rp S ⟨r6.pos + k, r6.kind, r6.fat⟩ := RBox.move f0 ((r6.pos + k : Nat) : Int)
                      have Q : Hid (∃ ts r vt, textsR S (n - (i + 1)) (ts, r) = T ∧ Dw w (wc.setCell ⟨rp, 1, none⟩ (.int .i64 ((r6.pos : Int) + (k : Int)))) S ts [] vt (.slice none 0 0) r ∧ ts.length ≤ i + 1) := ⟨_, _, vt', QR.out _ _ HF.out, HD9.out.read2 Hrp.out h8 (Kp.setCell _ ⟨rp, 1, none⟩ (by simp) _) (by show r6.pos + k ≤ 4000000; omega), by simp; omega⟩
                      clear f0 f1 f3 f4 f5 hD9 HD9 h8 QR HF
                      go_wp2
                      go_roundg (n - (i + 1))
                      case measure => omega
                      case rel => exact ⟨i + 1, by first | rfl | (congr 1; omega) | go_num, by omega, rfl, Q⟩
              · have hk7' : (r6.kind != 0) = true := by simpa using hk7
                have Q : Hid (∃ ts r vt, textsR S (n - (i + 1)) (ts, r) = T ∧ Dw w w6 S ts [] vt (.slice none 0 0) r ∧ ts.length ≤ i + 1) := ⟨ts, r6, vt, QR.out _ _ (by unfold textTake; rw [if_neg hk7]), Hd6.out, by omega⟩
                clear QR Hd6 H6 hk7
                go_wp2
                go_roundg (n - (i + 1))
                case measure => omega
                case rel => exact ⟨i + 1, by first | rfl | (congr 1; omega) | go_num, by omega, rfl, Q⟩
            · have hk' : (r.kind == 0) = false := by simpa using hk
              have e : (ts, r) = T := by
                rw [← q1, show n - i = (n - (i + 1)) + 1 by omega, textsR, if_neg hk]
              subst e
              clear q1 hk q2
              go_wp2
              go_meet
              exact ⟨vt, Q2.out, by show ts.length ≤ 65535; omega⟩
          · have hi' : ¬ (i : Int) < n := by omega
            have e : (ts, r) = T := by
              rw [← q1, show n - i = 0 by omega, textsR]
            subst e
            clear q1 q2
            go_wp2
            go_meet
            exact ⟨vt, Q2.out, by show ts.length ≤ 65535; omega⟩
      case rest =>
        obtain ⟨vt, hd, hTl⟩ := hcut.out
        clear hcut HT Hd5
        have hp := hd.pos
        obtain ⟨x0, _, _, z1, z2⟩ := hd.at Hcp.out Hrp.out
        have Hd : Hid (Dw w wc S T.1 [] vt (.slice none 0 0) T.2) := hd
        have Hcall : Hid _ := number_any wc rp S T.2 2 (by omega) x0 hS hp
        clear hd
        go_wp2_with fail
        refine Calls.mono Hcall.out ?_
        rintro e1 w8 ⟨rfl, h8, hk8⟩
        have hn := T.2.num_range S 2
        have hp8 := T.2.num_pos S 2 hS hp
        generalize T.2.num S 2 = N at *
        obtain ⟨nv, r8⟩ := N
        simp only [Int.reducePow] at *
        obtain ⟨m, rfl⟩ : ∃ m : Nat, nv = m := ⟨nv.toNat, by omega⟩
        have hm2 : m < 65536 := by omega
        have Hd8 : Hid (Dw w w8 S T.1 [] vt (.slice none 0 0) r8) := Hd.out.read2 Hrp.out h8 hk8 hp8
        obtain ⟨F, hF⟩ : ∃ F, funsR S m ([], r8) = F := ⟨_, rfl⟩
        have HR3 : Hid (decR S = decAns ⟨T.1, F.1⟩ (decEnd S F.2)) := by unfold Hid; rw [HR2.out, ← hF]; rfl
        have HF : Hid (funsR S m ([], r8) = F) := hF
        clear h8 hk8 hn hp8 hF Hd HR2 Hcall x0 hp
        go_upto_block 6 with fail
        go_cut [] from 135 to 181 (fun wx => Hid (∃ fs vf, Dw w wx S T.1 fs vt vf F.2 ∧ fs.map FnAt.f = F.1 ∧ fs.length ≤ 65535))
        case first =>
          go_wp2_with fail
          go_loopg [12] m (fun g iv wr => ∃ (i : Nat), iv = .int .i64 i ∧ i ≤ m ∧ g = m - i ∧ Hid (∃ fs r vf, funsR S (m - i) (fs.map FnAt.f, r) = F ∧ Dw w wr S T.1 fs vt vf r ∧ fs.length = i))
          case atStart => exact ⟨0, rfl, by omega, by omega, [], r8, _, HF.out, Hd8.out, rfl⟩
          case round =>
            clear HF Hd8
            obtain ⟨i, rfl, hi1, rfl, HR1⟩ := hrel
            obtain ⟨fs, r, vf, q1, q2, q4⟩ := HR1.out
            clear HR1
            obtain ⟨x0, ⟨x1, x2, x3, x4, x5⟩, ⟨y1, y2, y3⟩, z1, z2⟩ := q2.at Hcp.out Hrp.out
            have Q2 : Hid (Dw w wr S T.1 fs vt vf r) := q2
            have Q4 : Hid (fs.length = i) := q4
            clear y1 y2 y3 x1 x2 x4 x5 q2 q4
            by_cases hi : i < m
            · have hi' : (i : Int) < m := by omega
              by_cases hk : r.kind = 0
              · have hk' : (r.kind == 0) = true := by simpa using hk
                have hp := Q2.out.pos
                have Q3 : Hid (funsR S (m - (i + 1)) (fs.map FnAt.f ++ [(funR S r).1], (funR S r).2) = F) := by
                  unfold Hid
                  rw [← q1, show m - i = (m - (i + 1)) + 1 by omega, funsR, if_pos hk]
                have HfR : Hid (funR S r = funTail S (r.num S 2).1 ((r.num S 2).2.num S 2).1 (((r.num S 2).2.num S 2).2.num S 2)) := rfl
                generalize funR S r = FR at *
                have Hcall : Hid _ := number_any wr rp S r 2 (by omega) x0 hS hp
                have hp9 := r.num_pos S 2 hS hp
                clear q1 hk x0
                go_wp2_with fail
                refine Calls.mono Hcall.out ?_
                rintro e1 w9 ⟨rfl, h9, hk9⟩
                generalize r.num S 2 = N at *
                obtain ⟨fv, r9⟩ := N
                simp only at *
                have Hd9 : Hid (Dw w w9 S T.1 fs vt vf r9) := Q2.out.read2 Hrp.out h9 hk9 hp9
                clear Hcall Q2 hk9
                have Hcall : Hid _ := number_any w9 rp S r9 2 (by omega) h9 hS hp9
                have hp10 := r9.num_pos S 2 hS hp9
                clear h9
                go_wp2_with fail
                refine Calls.mono Hcall.out ?_
                rintro e1 w10 ⟨rfl, h10, hk10⟩
                generalize r9.num S 2 = N at *
                obtain ⟨sv, r10⟩ := N
                simp only at *
                have hd10 : Dw w w10 S T.1 fs vt vf r10 := Hd9.out.read2 Hrp.out h10 hk10 hp10
                have HFw : Hid _ := Fw.start hd10 fv sv
                have hd11 := hd10.alloc (Obj.cells #[.int .i64 fv, .int .i64 sv, .slice none 0 0] 50)
                have h11 := (hd11.at Hcp.out Hrp.out).1
                have Hd11 : Hid _ := hd11
                clear Hcall Hd9 hk10 hd10 h10 hd11 x3 z1 z2
                have Hcall : Hid _ := number_any _ rp S r10 2 (by omega) h11 hS hp10
                have hp11 := r10.num_pos S 2 hS hp10
                have hkr := r10.num_range S 2
                clear h11
                go_wp2_with fail
                refine Calls.mono Hcall.out ?_
                rintro e1 w12 ⟨rfl, h12, hk12⟩
                have hd12 := Hd11.out.read2 Hrp.out h12 hk12 hp11
                have hf12 := HFw.out.kp hk12 (by have := HFw.out.ap.le; have := Hrp.out; simp; omega) (fun g hg => by simp [Value.ownBlock] at hg)
                generalize r10.num S 2 = N at *
                obtain ⟨kv, r12⟩ := N
                simp only [Int.reducePow] at *
                obtain ⟨k, rfl⟩ : ∃ k : Nat, kv = k := ⟨kv.toNat, by omega⟩
                have hk2 : k < 65536 := by omega
                generalize w10.heap.size = bp at *
                obtain ⟨L, hL⟩ : ∃ L, insN S k ([], r12) = L := ⟨_, rfl⟩
                have HfR2 : Hid (FR = (⟨fv, sv, L.1⟩, L.2)) := by unfold Hid; rw [HfR.out, ← hL]; rfl
                have HL : Hid (insN S k ([], r12) = L) := hL
                have Hd12 : Hid (Dw w w12 S T.1 fs vt vf r12) := hd12
                have Hf12 : Hid (Fw w w12 fs vt vf bp fv sv (.slice none 0 0) []) := hf12
                clear HfR hL h12 hk12 hd12 hf12 Hcall HFw Hd11 hkr hp11 hp9 hp10
                go_upto_block 8 with fail
                go_cut [] from 135 to 181 (fun wx => Hid (∃ vi, Dw w wx S T.1 fs vt vf L.2 ∧ Fw w wx fs vt vf bp fv sv vi L.1 ∧ L.1.length ≤ 65535))
                case first =>
                  go_wp2_with fail
                  go_loopg [15] k (fun g iv wr => ∃ (j : Nat), iv = .int .i64 j ∧ j ≤ k ∧ g = k - j ∧ Hid (∃ l r vi, insN S (k - j) (l, r) = L ∧ Dw w wr S T.1 fs vt vf r ∧ Fw w wr fs vt vf bp fv sv vi l ∧ l.length = j))
                  case atStart => exact ⟨0, rfl, by omega, by omega, [], r12, _, HL.out, Hd12.out, Hf12.out, rfl⟩
                  case round =>
                    clear HL Hd12 Hf12
                    obtain ⟨j, rfl, hj1, rfl, HR1⟩ := hrel
                    obtain ⟨l, r, vi, q1, q2, q4, q5⟩ := HR1.out
                    clear HR1
                    rename World => wy
                    obtain ⟨x0, ⟨x1, x2, x3, x4, x5⟩, ⟨y1, y2, y3⟩, z1, z2⟩ := q2.at Hcp.out Hrp.out
                    have Hd13 : Hid (Dw w wy S T.1 fs vt vf r) := q2
                    have Hf13 : Hid (Fw w wy fs vt vf bp fv sv vi l) := q4
                    have Q5 : Hid (l.length = j) := q5
                    clear y1 y2 y3 x1 x2 x4 x5 q2 q4 q5
                    by_cases hj : j < k
                    · have hj' : (j : Int) < k := by omega
                      by_cases hk : r.kind = 0
                      · have hk' : (r.kind == 0) = true := by simpa using hk
                        have hp := Hd13.out.pos
                        have Q6 : Hid (insN S (k - (j + 1)) (l ++ [(insR S r).1], (insR S r).2) = L) := by
                          unfold Hid
                          rw [← q1, show k - j = (k - (j + 1)) + 1 by omega, insN, if_pos hk]
                        have Hcall : Hid _ := insR_any wy rp S r x0 hS hp
                        clear q1 hk x0
                        go_wp2_with fail
                        refine Calls.mono Hcall.out ?_
                        rintro e1 w14 ⟨rfl, h14, hp14, hk14⟩
                        have hd14 := Hd13.out.read2 Hrp.out h14 hk14 hp14
                        have hf14 := Hf13.out.kp hk14 (by have := Hf13.out.ap.le; have := Hrp.out; simp; omega) (fun g hg => by have := (Hf13.out.av g hg).1.le; have := Hrp.out; simp; omega)
                        generalize insR S r = X at *
                        obtain ⟨⟨op, xa, xb⟩, r14⟩ := X
                        simp only at *
                        have hka : Kp [] w14 (w14.alloc (Obj.cells #[Value.int IntKind.i64 op, Value.int IntKind.i64 xa, Value.int IntKind.i64 xb] 47)) := Kp.alloc _ _ _
                        have hd15 := hd14.kp hka (by simp)
                        have hf15 := hf14.kp hka (by simp) (by simp)
                        have hx15 : XBox (w14.alloc (Obj.cells #[Value.int IntKind.i64 op, Value.int IntKind.i64 xa, Value.int IntKind.i64 xb] 47)) w14.heap.size ⟨op, xa, xb⟩ := (MapKept.heap_alloc w14 _).1
                        have hzz : w14.heap.size < (w14.alloc (Obj.cells #[Value.int IntKind.i64 op, Value.int IntKind.i64 xa, Value.int IntKind.i64 xb] 47)).heap.size := by simp
                        have Hd15 : Hid _ := hd15
                        have Hf15 : Hid _ := hf15
                        have Hx15 : Hid (XBox (w14.alloc (Obj.cells #[Value.int IntKind.i64 op, Value.int IntKind.i64 xa, Value.int IntKind.i64 xb] 47)) w14.heap.size ⟨op, xa, xb⟩) := hx15
                        have Hzz : Hid _ := hzz
                        clear hd14 hf14 hd15 hf15 hx15 h14 hk14 hka Hd13 Hf13 Hcall x3 z1 z2 hzz
                        go_upto_region 37 with fail
                        generalize w14.alloc (Obj.cells #[Value.int IntKind.i64 op, Value.int IntKind.i64 xa, Value.int IntKind.i64 xb] 47) = w15 at *
                        generalize w14.heap.size = xp at *
                        obtain ⟨c0, c1, c2, c3, c4⟩ := Hf15.out.cells
                        obtain ⟨d0, d1, d2, _⟩ := XBox.cells Hx15.out
                        have hzz := Hzz.out
                        have hrow := Hf15.out.row
                        have hsz := Hd15.out.size
                        have hlen := Q5.out
                        have hll : l.length + 1 ≤ 65536 := by omega
                        have hcf := c3 2
                        clear c0 c1 c3 hlen
                        obtain ⟨i0, hi0, hzz0, hzz1, hzz2⟩ := info_parts infos42
                        go_wp2_with (at_builtin; refine wpList_append_lies _ rfl _ _ 48 rfl (w.heap.size + 4) 47 i0 (.agg #[.int .i64 0, .int .i64 0, .int .i64 0]) 3 24 slice43 hi0 hzz0 hzz1 hzz2 rfl (by decide) _ _ _ rfl (hrow.alloc _) ⟨w15.heap.size, 0, none⟩ 1 1 [.int .i64 op, .int .i64 xa, .int .i64 xb] rfl rfl (cells3_new w15 _ _ _ _) (one3 op xa xb) (by decide) (by unfold maxLen; omega) (by omega) (by simp; omega) (w15.heap.size + 1) (by simp) ?_)
                        intro g9 cap9 w16 ho16 hg16 hat16 hlt16
                        have hk16 : Kp [] w15 (w15.alloc (Obj.cells #[Value.int IntKind.i64 op, Value.int IntKind.i64 xa, Value.int IntKind.i64 xb] 47)) := Kp.alloc _ _ _
                        have hd16 := Hd15.out.kp hk16 (by simp)
                        have hf16 := Hf15.out.kp hk16 (by simp) (by simp)
                        have hf17 := hf16.kp (kp_grown hg16) (fun hx => (hf16.av bp (by simpa using hx)).2 rfl)
                        have hbx := (Kp.block (kp_grown hg16) bp hf16.lt (fun hx => (hf16.av bp (by simpa using hx)).2 rfl)).trans hf16.box
                        have m1 : w16.cell? ⟨bp, 2, none⟩ = some vi ∧ w16.frozen? ⟨bp, 2, none⟩ = false ∧ bp < w16.heap.size := by
                          refine ⟨?_, ?_, (Array.getElem?_eq_some_iff.1 hbx).1⟩ <;> simp [World.cell?, World.frozen?, hbx]
                        obtain ⟨m1, m2, m3⟩ := m1
                        have hadd := Fw.addIn (x := ⟨op, xa, xb⟩) hd16 hf16 ho16 hg16 (by simpa using hat16)
                        have Q : Hid (∃ l' r' vi', insN S (k - (j + 1)) (l', r') = L ∧ Dw w (w16.setCell ⟨bp, 2, none⟩ (.slice (some ⟨g9, 0, none⟩) (l.length + 1) cap9)) S T.1 fs vt vf r' ∧ Fw w (w16.setCell ⟨bp, 2, none⟩ (.slice (some ⟨g9, 0, none⟩) (l.length + 1) cap9)) fs vt vf bp fv sv vi' l' ∧ l'.length = j + 1) := ⟨l ++ [⟨op, xa, xb⟩], r14, _, Q6.out, hadd.2, hadd.1, by have := Q5.out; simp; omega⟩
                        clear hk16 hd16 hf16 hf17 hbx hadd ho16 hg16 hat16 c2 c4 d0 d1 d2 hcf hrow
                        go_wp2
                        go_roundg (k - (j + 1))
                        case measure => omega
                        case rel => exact ⟨j + 1, by first | rfl | (congr 1; omega) | go_num, by omega, rfl, Q⟩
                      · have hk' : (r.kind == 0) = false := by simpa using hk
                        have e : (l, r) = L := by
                          rw [← q1, show k - j = (k - (j + 1)) + 1 by omega, insN, if_neg hk]
                        subst e
                        clear q1 hk
                        go_wp2
                        go_meet
                        exact ⟨vi, Hd13.out, Hf13.out, by have := Q5.out; show l.length ≤ 65535; omega⟩
                    · have hj' : ¬ (j : Int) < k := by omega
                      have e : (l, r) = L := by
                        rw [← q1, show k - j = 0 by omega, insN]
                      subst e
                      clear q1
                      go_wp2
                      go_meet
                      exact ⟨vi, Hd13.out, Hf13.out, by have := Q5.out; show l.length ≤ 65535; omega⟩
                case rest =>
                  obtain ⟨vi, hd13, hf13, hLl⟩ := hcut.out
                  clear hcut HL Hd12 Hf12
                  rename World => wz
                  obtain ⟨q, qcap, rfl, hIn, hqb⟩ := insIn_row hf13.row (by omega)
                  obtain ⟨x0, ⟨x1, x2, x3, x4, x5⟩, ⟨y1, y2, y3⟩, z1, z2⟩ := hd13.at Hcp.out Hrp.out
                  obtain ⟨c0, c1, c2, c3, c4⟩ := hf13.cells
                  have Hd13 : Hid (Dw w wz S T.1 fs vt vf L.2) := hd13
                  have Hf13 : Hid (Fw w wz fs vt vf bp fv sv (.slice q L.1.length qcap) L.1) := hf13
                  have HIn : Hid _ := hIn
                  have Hqb : Hid (∀ b, q = some b → Apart w.heap.size vt vf fs b.block ∧ b.block < wz.heap.size) := fun b hb => ⟨(hf13.av _ (hqb b hb).1).1, (hqb b hb).2.2⟩
                  have hrow := hd13.rowf
                  have hsz := hd13.size
                  have hlen := Q4.out
                  have hll : fs.length + 1 ≤ 65536 := by omega
                  have hcf := y3 1
                  have Q3' : Hid (funsR S (m - (i + 1)) (fs.map FnAt.f ++ [⟨fv, sv, L.1⟩], L.2) = F) := by
                    have := Q3.out
                    rw [HfR2.out] at this
                    exact this
                  clear hd13 hf13 hIn hqb x0 x1 x2 x3 x4 x5 y1 c3 hlen Q3 HfR2
                  obtain ⟨i0, hi0, hzz0, hzz1, hzz2⟩ := info_parts infos45
                  go_wp2_with (at_builtin; refine wpList_append_lies _ rfl _ _ 23 rfl (w.heap.size + 4) 50 i0 (.agg #[.int .i64 0, .int .i64 0, .slice none 0 0]) 3 40 slice23 hi0 hzz0 hzz1 hzz2 rfl (by decide) _ _ _ rfl (hrow.alloc _) ⟨wz.heap.size, 0, none⟩ 1 1 [.int .i64 fv, .int .i64 sv, .slice q L.1.length qcap] rfl rfl (cells3_new wz _ _ _ _) (one3s fv sv q L.1.length qcap) (by decide) (by unfold maxLen; omega) (by omega) (by simp; omega) (wz.heap.size + 1) (by simp) ?_)
                  intro g9 cap9 w16 ho16 hg16 hat16 hlt16
                  have hk16 : Kp [] wz (wz.alloc (Obj.cells #[Value.int IntKind.i64 fv, Value.int IntKind.i64 sv, Value.slice q L.1.length qcap] 50)) := Kp.alloc _ _ _
                  have hd16 := Hd13.out.kp hk16 (by simp)
                  obtain ⟨_, m1, m2, m3⟩ := hd16.kpCode (kp_grown hg16) (fun x hx => (hd16.rowf.lt x (by simpa using hx)).1) Hcp.out
                  have m21 := m2 1
                  have hadd := hd16.addFun2 ⟨⟨fv, sv, L.1⟩, q, qcap⟩ (InsIn.kp HIn.out hk16 (by simp)) (fun b hb => ⟨(Hqb.out b hb).1, Nat.lt_of_lt_of_le (Hqb.out b hb).2 hk16.size⟩) ho16 hg16 (by simpa using hat16) Hcp.out
                  have Q : Hid (∃ fs' r' vf', funsR S (m - (i + 1)) (fs'.map FnAt.f, r') = F ∧ Dw w (w16.setCell ⟨cp, 1, none⟩ (.slice (some ⟨g9, 0, none⟩) (fs.length + 1) cap9)) S T.1 fs' vt vf' r' ∧ fs'.length = i + 1) := ⟨_, L.2, _, by rw [List.map_append]; exact Q3'.out, hadd, by have := Q4.out; simp; omega⟩
                  clear hk16 hd16 hadd ho16 hg16 hat16 c0 c1 c2 c4 hcf hrow m2 y2 y3
                  go_wp2
                  go_roundg (m - (i + 1))
                  case measure => omega
                  case rel => exact ⟨i + 1, by first | rfl | (congr 1; omega) | go_num, by omega, rfl, Q⟩
              · have hk' : (r.kind == 0) = false := by simpa using hk
                have e : (fs.map FnAt.f, r) = F := by
                  rw [← q1, show m - i = (m - (i + 1)) + 1 by omega, funsR, if_neg hk]
                subst e
                clear q1 hk
                go_wp2
                go_meet
                exact ⟨fs, vf, Q2.out, rfl, by have := Q4.out; omega⟩
            · have hi' : ¬ (i : Int) < m := by omega
              have e : (fs.map FnAt.f, r) = F := by
                rw [← q1, show m - i = 0 by omega, funsR]
              subst e
              clear q1
              go_wp2
              go_meet
              exact ⟨fs, vf, Q2.out, rfl, by have := Q4.out; omega⟩
        case rest =>
          obtain ⟨fs, vf, hd, hmap, hfl⟩ := hcut.out
          clear hcut HF Hd8
          rename World => wz
          have HD : Hid (Dw w wz S T.1 fs vt vf F.2) := hd
          have Hmap : Hid (fs.map FnAt.f = F.1) := hmap
          obtain ⟨x0, ⟨x1, x2, x3, x4, x5⟩, ⟨y1, y2, y3⟩, z1, z2⟩ := hd.at Hcp.out Hrp.out
          have hp := hd.pos
          clear hd hmap x1 x5 y3
          by_cases hk : F.2.kind = 0
          · have hk' : (F.2.kind == 0) = true := by simpa using hk
            by_cases hlt : F.2.pos < S.size
            · have hlt' : (F.2.pos : Int) < S.size := by omega
              have He : Hid (decEnd S F.2 = ⟨F.2.pos, 16, F.2.pos⟩) := by unfold Hid decEnd; rw [if_pos ⟨hk, hlt⟩, Rs.fail_kind _ _ _ hk]
              have Hcall : Hid _ := failR wz rp S F.2 16 F.2.pos x0
              have Hfk : Hid (F.2.fail 16 F.2.pos = ⟨F.2.pos, 16, F.2.pos⟩) := Rs.fail_kind _ _ _ hk
              clear hk x0
              go_wp2_with fail
              refine Calls.mono Hcall.out ?_
              rintro e1 w20 ⟨rfl, h20, hk20⟩
              rw [Hfk.out] at h20
              have hd20 := HD.out.read2 Hrp.out h20 hk20 hp
              obtain ⟨v0, ⟨v1, v2, v3, v4, v5⟩, _, v6, v7⟩ := hd20.drew.at Hcp.out Hrp.out
              obtain ⟨w1, w2, w3, w4, w5, w6, w7, w8⟩ := hd20.ans Ha0.out Ha1.out
              obtain ⟨_, ⟨_, _, x3, x4, _⟩, _, z1, z2⟩ := hd20.at Hcp.out Hrp.out
              obtain ⟨e1, e2, e3, e4⟩ : a0 ≠ a1 ∧ a1 ≠ a0 ∧ a0 ≠ rp ∧ a1 ≠ rp := by have := Ha0.out; have := Ha1.out; have := Hrp.out; omega
              have w50 := w5 0
              have w51 := w5 1
              have w60 := w6 0
              have w61 := w6 1
              have HA : Hid (decR S = ((⟨[], []⟩ : Cd), (16 : Int), (F.2.pos : Int))) := by unfold Hid; rw [HR3.out, He.out]; rfl
              have HD20 : Hid (Dw w w20 S T.1 fs vt vf ⟨F.2.pos, 16, F.2.pos⟩) := hd20
              clear v0 v1 v2 v5 w5 w6 hd20 h20 hk20 y1 y2 HD
              go_wp2_with fail
              go_region
              all_goals
                go_wp2
                obtain ⟨⟨n1, n2, n3, n4⟩, nk⟩ := Dw.set HD20.out Ha0.out Ha1.out (.slice none 0 0) (.slice none 0 0) (.int .i64 16) (.int .i64 F.2.pos)
                refine bodyPost_ret (v := .tuple #[.agg #[.slice none 0 0, .slice none 0 0], .agg #[.int .i64 16, .int .i64 F.2.pos]]) ?_ rfl ?_
                · simp [results, Tryd.results11, go_sem, n1, n2, n3, n4]
                exact DecPost.mk none 0 none 0 (by rw [HA.out]; rfl) (by rw [HA.out]; exact textsIn_nil _) (by rw [HA.out]; exact funsIn_nil _) ((HD20.out.keep.trans (nk.below HD20.out.keep.size (by have := Ha0.out; have := Ha1.out; simp; omega))).drew)
            · have hlt' : ¬ (F.2.pos : Int) < S.size := by omega
              have hk2' : (F.2.kind != 0) = false := by simpa using hk
              have He : Hid (decEnd S F.2 = F.2) := by unfold Hid decEnd; rw [if_neg (fun h => hlt h.2)]
              have HA : Hid (decR S = (⟨T.1, F.1⟩, 0, 0)) := by unfold Hid; rw [HR3.out, He.out]; unfold decAns; rw [if_pos hk]
              obtain ⟨w1, w2, w3, w4, w5, w6, w7, w8⟩ := HD.out.ans Ha0.out Ha1.out
              obtain ⟨e1, e2, e3, e4, e5, e6⟩ : a0 ≠ a1 ∧ a1 ≠ a0 ∧ a0 ≠ rp ∧ a1 ≠ rp ∧ a0 ≠ cp ∧ a1 ≠ cp := by have := Ha0.out; have := Ha1.out; have := Hrp.out; have := Hcp.out; omega
              have w50 := w5 0
              have w51 := w5 1
              have w60 := w6 0
              have w61 := w6 1
              obtain ⟨_, p, cap, p', cap', rfl, rfl, _, _⟩ := HD.out.done Ha0.out Ha1.out (Kp.refl _ _) hTl hfl
              clear hk x0 w5 w6
              go_wp2
              obtain ⟨⟨n1, n2, n3, n4⟩, nk⟩ := HD.out.set Ha0.out Ha1.out (.slice p T.1.length cap) (.slice p' fs.length cap') (.int .i64 0) (.int .i64 0)
              obtain ⟨nb, p2, cap2, p2', cap2', e1, e2, nt, nf⟩ := HD.out.done Ha0.out Ha1.out nk hTl hfl
              cases e1
              cases e2
              refine bodyPost_ret (v := .tuple #[.agg #[.slice p T.1.length cap, .slice p' fs.length cap'], .agg #[.int .i64 0, .int .i64 0]]) ?_ rfl ?_
              · simp [results, Tryd.results11, go_sem, n1, n2, n3, n4]
              exact DecPost.mk p cap p' cap' (by rw [HA.out]; simp only; rw [← Hmap.out]; simp) (by rw [HA.out]; exact nt) (by rw [HA.out]; simp only; rw [← Hmap.out]; exact nf) nb
          · have hk' : (F.2.kind == 0) = false := by simpa using hk
            have hk2' : (F.2.kind != 0) = true := by simpa using hk
            have He : Hid (decEnd S F.2 = F.2) := by unfold Hid decEnd; rw [if_neg (fun h => hk h.1)]
            have hd' := HD.out.drew
            obtain ⟨v0, ⟨v1, v2, v3, v4, v5⟩, _, v6, v7⟩ := hd'.at Hcp.out Hrp.out
            obtain ⟨w1, w2, w3, w4, w5, w6, w7, w8⟩ := HD.out.ans Ha0.out Ha1.out
            obtain ⟨e1, e2, e3, e4⟩ : a0 ≠ a1 ∧ a1 ≠ a0 ∧ a0 ≠ rp ∧ a1 ≠ rp := by have := Ha0.out; have := Ha1.out; have := Hrp.out; omega
            have w50 := w5 0
            have w51 := w5 1
            have w60 := w6 0
            have w61 := w6 1
            clear hk hd' v0 v1 v2 v5 w5 w6
            have HA : Hid (decR S = (⟨[], []⟩, F.2.kind, F.2.fat)) := by unfold Hid; rw [HR3.out, He.out]; unfold decAns; rw [if_neg (by simpa using hk2')]
            go_wp2_with fail
            go_region
            all_goals
              go_wp2
              obtain ⟨⟨n1, n2, n3, n4⟩, nk⟩ := HD.out.set Ha0.out Ha1.out (.slice none 0 0) (.slice none 0 0) (.int .i64 F.2.kind) (.int .i64 F.2.fat)
              refine bodyPost_ret (v := .tuple #[.agg #[.slice none 0 0, .slice none 0 0], .agg #[.int .i64 F.2.kind, .int .i64 F.2.fat]]) ?_ rfl ?_
              · simp [results, Tryd.results11, go_sem, n1, n2, n3, n4]
              exact DecPost.mk none 0 none 0 (by rw [HA.out]; rfl) (by rw [HA.out]; exact textsIn_nil _) (by rw [HA.out]; exact funsIn_nil _) ((HD.out.keep.trans (nk.below HD.out.keep.size (by have := Ha0.out; have := Ha1.out; simp; omega))).drew)
end
end Go.Proofs.YtimdjcffmajmnaaDoor
