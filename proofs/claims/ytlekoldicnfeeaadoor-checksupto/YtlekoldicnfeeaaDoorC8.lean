/-
  The document's reader of bytes: an instruction (ins).
-/
import Derived.Test.YtlekoldicnfeeaaDoorC7
namespace Go.Proofs.YtlekoldicnfeeaaDoor
open Go.RowKit Go.Deep
def Rs.fail (r : Rs) (k pl : Int) : Rs := if r.kind = 0 then ⟨r.pos, k, pl⟩ else r
theorem Rs.fail_pos (r : Rs) (k pl : Int) : (r.fail k pl).pos = r.pos := by unfold Rs.fail; split <;> rfl
theorem failR (w : World) (rp : Nat) (S : ByteArray) (r : Rs) (k pl : Int) (h : RAt w rp S r) :
    Calls Tryd.prog 24 #[.pointer (some ⟨rp, 0, none⟩), .int .i64 k, .int .i64 pl] w fun e w' => e = .returned (.tuple #[]) ∧ RAt w' rp S (r.fail k pl) ∧ Kp [rp] w w' := by
  refine (fail_any w rp S r.pos r.kind r.fat k pl h).mono ?_
  rintro e w' ⟨h1, h2, h3⟩
  refine ⟨h1, ?_, h3⟩
  unfold RAt Rs.fail
  by_cases hk : r.kind = 0
  · rw [if_pos hk]
    rw [if_pos hk, if_pos hk] at h2
    exact h2
  · rw [if_neg hk]
    rw [if_neg hk, if_neg hk] at h2
    exact h2
theorem Rs.num_pos (S : ByteArray) (n : Nat) (r : Rs) (hS : S.size ≤ 4000000) (hp : r.pos ≤ 4000000) : (r.num S n).2.pos ≤ 4000000 := by
  unfold Rs.num
  split
  · split
    · exact hp
    · show r.pos + n ≤ 4000000
      omega
  · exact hp
theorem Rs.num_range (S : ByteArray) (n : Nat) (r : Rs) : 0 ≤ (r.num S n).1 ∧ (r.num S n).1 < 256 ^ n := by
  have h0 : (0 : Int) < 256 ^ n := Int.pow_pos (by omega)
  unfold Rs.num
  split
  · split
    · exact ⟨by simp, h0⟩
    · exact numAt_pos S _ n
  · exact ⟨by simp, h0⟩
/-- A number of four bytes is read with its sign. -/
def signed (v : Int) : Int := if 2147483648 ≤ v then v - 4294967296 else v
def argR (S : ByteArray) (c : UInt8) (r : Rs) : Int × Rs :=
  if c = 105 then (signed (r.num S 4).1, if 1000000000 < signed (r.num S 4).1 ∨ signed (r.num S 4).1 < -1000000000 then (r.num S 4).2.fail 17 r.pos else (r.num S 4).2) else r.num S 2
def In.put (x : In) (i : Nat) (v : Int) : In := if i = 0 then ⟨x.op, v, x.b⟩ else ⟨x.op, x.a, v⟩
def insLoop (S : ByteArray) : List UInt8 → Nat → In × Rs → In × Rs
  | [], _, s => s
  | c :: f, i, s => if s.2.kind = 0 then insLoop S f (i + 1) (s.1.put i (argR S c s.2).1, (argR S c s.2).2) else s
def insStart (S : ByteArray) (r : Rs) : In × Rs := (⟨(r.num S 1).1, 0, 0⟩, if isOp (r.num S 1).1 = true then (r.num S 1).2 else (r.num S 1).2.fail 18 r.pos)
def insR (S : ByteArray) (r : Rs) : In × Rs := insLoop S (form (r.num S 1).1) 0 (insStart S r)
/-- An instruction's own cells. -/
def XBox (w : World) (xp : Nat) (x : In) : Prop := w.heap[xp]? = some (.cells #[.int .i64 x.op, .int .i64 x.a, .int .i64 x.b] 47)
theorem XBox.lt {w : World} {xp : Nat} {x : In} (h : XBox w xp x) : xp < w.heap.size := (Array.getElem?_eq_some_iff.1 h).1
theorem XBox.kp {X : List Nat} {w w' : World} {xp : Nat} {x : In} (h : XBox w xp x) (hk : Kp X w w') (hx : xp ∉ X) : XBox w' xp x := (hk.block xp h.lt hx).trans h
theorem XBox.cells {w : World} {xp : Nat} {x : In} (h : XBox w xp x) : w.cell? ⟨xp, 0, none⟩ = some (.int .i64 x.op) ∧ w.cell? ⟨xp, 1, none⟩ = some (.int .i64 x.a) ∧ w.cell? ⟨xp, 2, none⟩ = some (.int .i64 x.b) ∧ (∀ j, w.frozen? ⟨xp, j, none⟩ = false) := by
  unfold XBox at h
  refine ⟨?_, ?_, ?_, fun j => ?_⟩ <;> simp [World.cell?, World.frozen?, h]
theorem XBox.setA {w : World} {xp : Nat} {x : In} (h : XBox w xp x) (v : Int) : XBox (w.setCell ⟨xp, 1, none⟩ (.int .i64 v)) xp (x.put 0 v) := by
  unfold XBox In.put at *
  simp [World.setCell, Array.getElem?_modify, h]
theorem XBox.setB {w : World} {xp : Nat} {x : In} (h : XBox w xp x) (v : Int) : XBox (w.setCell ⟨xp, 2, none⟩ (.int .i64 v)) xp (x.put 1 v) := by
  unfold XBox In.put at *
  simp [World.setCell, Array.getElem?_modify, h]
theorem XBox.set3 {w : World} {xp : Nat} {x : In} (h : XBox w xp x) (y : In) : XBox (((w.setCell ⟨xp, 0, none⟩ (.int .i64 y.op)).setCell ⟨xp, 1, none⟩ (.int .i64 y.a)).setCell ⟨xp, 2, none⟩ (.int .i64 y.b)) xp y := by
  unfold XBox at *
  simp [World.setCell, Array.getElem?_modify, h]
section
set_option maxHeartbeats 8000000
set_option maxRecDepth 100000
theorem insR_any (w : World) (rp : Nat) (S : ByteArray) (r : Rs) (h : RAt w rp S r) (hS : S.size ≤ 4000000) (hp : r.pos ≤ 4000000) :
    Calls Tryd.prog 26 #[.pointer (some ⟨rp, 0, none⟩)] w fun e w' => e = .returned (.agg #[.int .i64 (insR S r).1.op, .int .i64 (insR S r).1.a, .int .i64 (insR S r).1.b]) ∧ RAt w' rp S (insR S r).2 ∧ (insR S r).2.pos ≤ 4000000 ∧ Kp [rp] w w' := by
  have hlt := RBox.lt h
  have hk0 : Kp [] w (w.alloc (Obj.cells #[Value.int IntKind.i64 0, Value.int IntKind.i64 0, Value.int IntKind.i64 0] 47)) := Kp.alloc _ _ _
  have h0 : RAt (w.alloc (Obj.cells #[Value.int IntKind.i64 0, Value.int IntKind.i64 0, Value.int IntKind.i64 0] 47)) rp S r := RBox.kp h hk0 (by simp)
  have hx0 : XBox (w.alloc (Obj.cells #[Value.int IntKind.i64 0, Value.int IntKind.i64 0, Value.int IntKind.i64 0] 47)) w.heap.size ⟨0, 0, 0⟩ := (MapKept.heap_alloc w _).1
  obtain ⟨c0, c1, c2, c3, _⟩ := RBox.cells h0
  have hlt0 := RBox.lt h0
  have Hnum : Hid _ := number_any _ rp S r 1 (by omega) h0 hS hp
  have Hst : Hid (insStart S r = (⟨(r.num S 1).1, 0, 0⟩, if isOp (r.num S 1).1 = true then (r.num S 1).2 else (r.num S 1).2.fail 18 r.pos)) := rfl
  have Hfin : Hid (insLoop S (form (r.num S 1).1) 0 (insStart S r) = insR S r) := rfl
  have Hp1 : Hid ((r.num S 1).2.pos ≤ 4000000) := r.num_pos S 1 hS hp
  have Hk0 : Hid _ := hk0
  have Hx0 : Hid _ := hx0
  clear h h0 hk0 hx0
  generalize insR S r = R at *
  go_enter Tryd.func26, Tryd.ntmps26
  go_wp2_with fail
  generalize w.alloc (Obj.cells #[Value.int IntKind.i64 0, Value.int IntKind.i64 0, Value.int IntKind.i64 0] 47) = w0 at *
  refine Calls.mono Hnum.out ?_
  rintro e1 w1 ⟨rfl, h1, hk1⟩
  generalize r.num S 1 = nr at *
  obtain ⟨op, r1⟩ := nr
  simp only at *
  have hx1 : XBox w1 w.heap.size ⟨0, 0, 0⟩ := XBox.kp Hx0.out hk1 (by simp; omega)
  have hka : Kp [] w1 (w1.alloc (Obj.cells #[Value.int IntKind.i64 op, Value.int IntKind.i64 0, Value.int IntKind.i64 0] 47)) := Kp.alloc _ _ _
  have hxa : XBox (w1.alloc (Obj.cells #[Value.int IntKind.i64 op, Value.int IntKind.i64 0, Value.int IntKind.i64 0] 47)) w1.heap.size ⟨op, 0, 0⟩ := (MapKept.heap_alloc w1 _).1
  have H2 : Hid (RAt (w1.alloc (Obj.cells #[Value.int IntKind.i64 op, Value.int IntKind.i64 0, Value.int IntKind.i64 0] 47)) rp S r1) := RBox.kp h1 hka (by simp)
  have Hx2 : Hid (XBox (w1.alloc (Obj.cells #[Value.int IntKind.i64 op, Value.int IntKind.i64 0, Value.int IntKind.i64 0] 47)) w.heap.size ⟨0, 0, 0⟩) := hx1.kp hka (by simp)
  have Hk2 : Hid (Kp [rp] w (w1.alloc (Obj.cells #[Value.int IntKind.i64 op, Value.int IntKind.i64 0, Value.int IntKind.i64 0] 47))) := ((Kp.mono Hk0.out (by simp)).trans hk1).trans (hka.mono (by simp))
  have hz1 : w.heap.size < w1.heap.size := hx1.lt
  have hr1 := RBox.lt h1
  obtain ⟨y0, y1, y2, _⟩ := hxa.cells
  have Hxa : Hid _ := hxa
  clear h1 hk1 hka Hnum Hx0 Hk0 c0 c1 c2 c3 hx1 hxa hlt0
  go_upto_if 23 with (go_at_call 34; refine (form_any _ _).mono ?_; rintro e1 w9 ⟨rfl, rfl⟩)
  generalize w1.alloc (Obj.cells #[Value.int IntKind.i64 op, Value.int IntKind.i64 0, Value.int IntKind.i64 0] 47) = w2 at *
  obtain ⟨r2, hr2⟩ : ∃ r2, r2 = (if isOp op = true then r1 else r1.fail 18 r.pos) := ⟨_, rfl⟩
  have Hr2 : Hid (r2 = (if isOp op = true then r1 else r1.fail 18 r.pos)) := hr2
  have Hp2 : Hid (r2.pos ≤ 4000000) := by
    unfold Hid
    rw [hr2]
    split
    · exact Hp1.out
    · rw [Rs.fail_pos]; exact Hp1.out
  have Hfin2 : Hid (insLoop S (form op) 0 (⟨op, 0, 0⟩, r2) = R) := by
    unfold Hid
    rw [hr2, ← Hst.out]
    exact Hfin.out
  have Hfl : Hid _ := failR w2 rp S r1 18 r.pos H2.out
  clear hr2 Hfin Hst y0 y1 y2
  generalize isOp op = kop at *
  go_cut [] from 24 to 27 (fun wx => Hid (RAt wx rp S r2 ∧ XBox wx w1.heap.size ⟨op, 0, 0⟩ ∧ XBox wx w.heap.size ⟨0, 0, 0⟩ ∧ Kp [rp] w wx))
  case first =>
    cases kop with
    | true =>
      have e : r2 = r1 := by rw [Hr2.out]; rfl
      subst e
      go_wp2
      go_meet
      exact ⟨H2.out, Hxa.out, Hx2.out, Hk2.out⟩
    | false =>
      have e : r2 = r1.fail 18 r.pos := by rw [Hr2.out]; rfl
      have E : Hid _ := e
      clear e
      go_wp2_with fail
      refine Calls.mono Hfl.out ?_
      rintro e1 w3 ⟨rfl, h3, hk3⟩
      have Q : Hid (RAt w3 rp S r2 ∧ XBox w3 w1.heap.size ⟨op, 0, 0⟩ ∧ XBox w3 w.heap.size ⟨0, 0, 0⟩ ∧ Kp [rp] w w3) := ⟨by rw [E.out]; exact h3, XBox.kp Hxa.out hk3 (by simp; omega), XBox.kp Hx2.out hk3 (by simp; omega), Kp.trans Hk2.out hk3⟩
      clear h3 hk3
      go_wp2
      go_meet
      exact Q.out
  case rest =>
    have Hc : Hid _ := hcut.out
    have Hfc : Hid (form op = [] ∨ form op = [105] ∨ form op = [110] ∨ form op = [110, 110]) := form_cases op
    clear hcut Hfl Hr2 H2 Hx2 Hxa Hk2 Hp1
    generalize form op = f at *
    have hfl2 : f.length ≤ 2 := by rcases Hfc.out with rfl | rfl | rfl | rfl <;> simp
    generalize hxp : w1.heap.size = xp at *
    clear hxp
    go_wp2_with fail
    go_loopg [7] f.length (fun g iv wr => ∃ (i : Nat), iv = .int .i64 i ∧ i ≤ f.length ∧ g = f.length - i ∧ Hid (∃ (x : In) (r3 : Rs), insLoop S (f.drop i) i (x, r3) = R ∧ RAt wr rp S r3 ∧ r3.pos ≤ 4000000 ∧ XBox wr xp x ∧ XBox wr w.heap.size ⟨0, 0, 0⟩ ∧ Kp [rp] w wr))
    case atStart => exact ⟨0, rfl, by omega, by omega, ⟨op, 0, 0⟩, r2, Hfin2.out, Hc.out.1, Hp2.out, Hc.out.2.1, Hc.out.2.2.1, Hc.out.2.2.2⟩
    case round =>
      clear Hc Hfin2 Hp2
      obtain ⟨i, rfl, hi1, rfl, HR⟩ := hrel
      obtain ⟨x, r3, q1, q2, q3, q4, q5, q6⟩ := HR.out
      clear HR
      obtain ⟨c0, c1, c2, c3, _⟩ := RBox.cells q2
      have hlr := RBox.lt q2
      have hfin : ∀ (wx : World), (R.1.op = x.op ∧ R.1.a = x.a ∧ R.1.b = x.b ∧ R.2 = r3) → True := fun _ _ => trivial
      clear hfin
      by_cases hi : i < f.length
      · have hi' : (i : Int) < f.length := by omega
        by_cases hk : r3.kind = 0
        · have hk9 := hk
          rcases Hfc.out with rfl | rfl | rfl | rfl
          · exact absurd hi (by simp)
          · obtain rfl : i = 0 := by simp at hi; exact hi
            have Hcall : Hid _ := number_any wr rp S r3 4 (by omega) q2 hS q3
            have hp4 := r3.num_pos S 4 hS q3
            have hrg := r3.num_range S 4
            have hq : insLoop S (([105] : List UInt8).drop (0 + 1)) (0 + 1) (x.put 0 (signed (r3.num S 4).1), if 1000000000 < signed (r3.num S 4).1 ∨ signed (r3.num S 4).1 < -1000000000 then (r3.num S 4).2.fail 17 r3.pos else (r3.num S 4).2) = R := by
              rw [← q1]
              simp [insLoop, argR, hk]
            have hk' : (r3.kind == 0) = true := by simpa using hk
            clear q1 hk
            go_wp2_with fail
            refine Calls.mono Hcall.out ?_
            rintro e1 w4 ⟨rfl, h4, hk4⟩
            generalize r3.num S 4 = nr at *
            obtain ⟨u, r4⟩ := nr
            simp only [Int.reducePow] at *
            obtain ⟨hu0, hu1⟩ := hrg
            by_cases h31 : 2147483648 ≤ u
            · by_cases hb : u - 4294967296 < -1000000000
              · have hgt : ¬ 1000000000 < u - 4294967296 := by omega
                have hsg : signed u = u - 4294967296 := by unfold signed; rw [if_pos h31]
                rw [hsg, if_pos (by omega)] at hq
                have Hq : Hid _ := hq
                have Hp4 : Hid ((r4.fail 17 r3.pos).pos ≤ 4000000) := by unfold Hid; rw [Rs.fail_pos]; exact hp4
                have Hfl : Hid _ := failR w4 rp S r4 17 r3.pos h4
                clear hq hp4 hsg
                obtain ⟨c0, c1, c2, c3, _⟩ := RBox.cells h4
                go_wp2_with fail
                refine Calls.mono Hfl.out ?_
                rintro e1 w5 ⟨rfl, h5, hk5⟩
                have hk4 := hk4.trans hk5
                clear h4 hk5 Hfl
                have h4 := h5
                clear h5
                have hx4 := XBox.kp q4 hk4 (by simp; omega)
                have hv4 := XBox.kp q5 hk4 (by simp; omega)
                obtain ⟨y0, y1, y2, yf⟩ := hx4.cells
                have hlx := hx4.lt
                have gf := yf 1
                have hks : Kp [xp] w5 (w5.setCell ⟨xp, 1, none⟩ (.int .i64 (u - 4294967296))) := Kp.setCell w5 ⟨xp, 1, none⟩ (by simp) _
                have Q : Hid (∃ (x : In) (r3 : Rs), insLoop S (([105] : List UInt8).drop (0 + 1)) (0 + 1) (x, r3) = R ∧ RAt (w5.setCell ⟨xp, 1, none⟩ (.int .i64 (u - 4294967296))) rp S r3 ∧ r3.pos ≤ 4000000 ∧ XBox (w5.setCell ⟨xp, 1, none⟩ (.int .i64 (u - 4294967296))) xp x ∧ XBox (w5.setCell ⟨xp, 1, none⟩ (.int .i64 (u - 4294967296))) w.heap.size ⟨0, 0, 0⟩ ∧ Kp [rp] w (w5.setCell ⟨xp, 1, none⟩ (.int .i64 (u - 4294967296)))) := ⟨_, r4.fail 17 r3.pos, Hq.out, RBox.kp h4 hks (by simp; omega), Hp4.out, hx4.setA (u - 4294967296), hv4.kp hks (by simp; omega), (q6.trans hk4).then hks (by simp; omega)⟩
                clear h4 hk4 Hcall q2 q4 q5 q6 hx4 hv4 yf hks Hq Hp4 c0 c1 c2 c3
                go_wp2
                go_roundg ((([105] : List UInt8)).length - (0 + 1))
                case measure => simp
                case rel => exact ⟨0 + 1, rfl, by simp, rfl, Q⟩
              · have hgt : ¬ 1000000000 < u - 4294967296 := by omega
                obtain ⟨v, hv⟩ : ∃ v, v = u - 4294967296 := ⟨_, rfl⟩
                have hsg : signed u = v := by unfold signed; rw [hv]; rw [if_pos h31]
                rw [hsg, if_neg (by omega)] at hq
                have Hq : Hid _ := hq
                have Hp4 : Hid (r4.pos ≤ 4000000) := hp4
                clear hq hp4 hsg
                have hx4 := XBox.kp q4 hk4 (by simp; omega)
                have hv4 := XBox.kp q5 hk4 (by simp; omega)
                obtain ⟨y0, y1, y2, yf⟩ := hx4.cells
                have hlx := hx4.lt
                have gf := yf 1
                have hks : Kp [xp] w4 (w4.setCell ⟨xp, 1, none⟩ (.int .i64 (u - 4294967296))) := Kp.setCell w4 ⟨xp, 1, none⟩ (by simp) _
                have Q : Hid (∃ (x : In) (r3 : Rs), insLoop S (([105] : List UInt8).drop (0 + 1)) (0 + 1) (x, r3) = R ∧ RAt (w4.setCell ⟨xp, 1, none⟩ (.int .i64 (u - 4294967296))) rp S r3 ∧ r3.pos ≤ 4000000 ∧ XBox (w4.setCell ⟨xp, 1, none⟩ (.int .i64 (u - 4294967296))) xp x ∧ XBox (w4.setCell ⟨xp, 1, none⟩ (.int .i64 (u - 4294967296))) w.heap.size ⟨0, 0, 0⟩ ∧ Kp [rp] w (w4.setCell ⟨xp, 1, none⟩ (.int .i64 (u - 4294967296)))) := ⟨_, r4, hv ▸ Hq.out, RBox.kp h4 hks (by simp; omega), Hp4.out, hx4.setA (u - 4294967296), hv4.kp hks (by simp; omega), (q6.trans hk4).then hks (by simp; omega)⟩
                clear h4 hk4 Hcall q2 q4 q5 q6 hx4 hv4 yf hks Hq Hp4 c0 c1 c2 c3
                go_wp2
                go_roundg ((([105] : List UInt8)).length - (0 + 1))
                case measure => simp
                case rel => exact ⟨0 + 1, rfl, by simp, rfl, Q⟩
            · by_cases hb : 1000000000 < u
              · have hsg : signed u = u := by unfold signed; rw [if_neg h31]
                rw [hsg, if_pos (by omega)] at hq
                have Hq : Hid _ := hq
                have Hp4 : Hid ((r4.fail 17 r3.pos).pos ≤ 4000000) := by unfold Hid; rw [Rs.fail_pos]; exact hp4
                have Hfl : Hid _ := failR w4 rp S r4 17 r3.pos h4
                clear hq hp4 hsg
                obtain ⟨c0, c1, c2, c3, _⟩ := RBox.cells h4
                go_wp2_with fail
                refine Calls.mono Hfl.out ?_
                rintro e1 w5 ⟨rfl, h5, hk5⟩
                have hk4 := hk4.trans hk5
                clear h4 hk5 Hfl
                have h4 := h5
                clear h5
                have hx4 := XBox.kp q4 hk4 (by simp; omega)
                have hv4 := XBox.kp q5 hk4 (by simp; omega)
                obtain ⟨y0, y1, y2, yf⟩ := hx4.cells
                have hlx := hx4.lt
                have gf := yf 1
                have hks : Kp [xp] w5 (w5.setCell ⟨xp, 1, none⟩ (.int .i64 (u))) := Kp.setCell w5 ⟨xp, 1, none⟩ (by simp) _
                have Q : Hid (∃ (x : In) (r3 : Rs), insLoop S (([105] : List UInt8).drop (0 + 1)) (0 + 1) (x, r3) = R ∧ RAt (w5.setCell ⟨xp, 1, none⟩ (.int .i64 (u))) rp S r3 ∧ r3.pos ≤ 4000000 ∧ XBox (w5.setCell ⟨xp, 1, none⟩ (.int .i64 (u))) xp x ∧ XBox (w5.setCell ⟨xp, 1, none⟩ (.int .i64 (u))) w.heap.size ⟨0, 0, 0⟩ ∧ Kp [rp] w (w5.setCell ⟨xp, 1, none⟩ (.int .i64 (u)))) := ⟨_, r4.fail 17 r3.pos, Hq.out, RBox.kp h4 hks (by simp; omega), Hp4.out, hx4.setA (u), hv4.kp hks (by simp; omega), (q6.trans hk4).then hks (by simp; omega)⟩
                clear h4 hk4 Hcall q2 q4 q5 q6 hx4 hv4 yf hks Hq Hp4 c0 c1 c2 c3
                go_wp2
                go_roundg ((([105] : List UInt8)).length - (0 + 1))
                case measure => simp
                case rel => exact ⟨0 + 1, rfl, by simp, rfl, Q⟩
              · have hlt2 : ¬ u < -1000000000 := by omega
                obtain ⟨v, hv⟩ : ∃ v, v = u := ⟨_, rfl⟩
                have hsg : signed u = v := by unfold signed; rw [hv]; rw [if_neg h31]
                rw [hsg, if_neg (by omega)] at hq
                have Hq : Hid _ := hq
                have Hp4 : Hid (r4.pos ≤ 4000000) := hp4
                clear hq hp4 hsg
                have hx4 := XBox.kp q4 hk4 (by simp; omega)
                have hv4 := XBox.kp q5 hk4 (by simp; omega)
                obtain ⟨y0, y1, y2, yf⟩ := hx4.cells
                have hlx := hx4.lt
                have gf := yf 1
                have hks : Kp [xp] w4 (w4.setCell ⟨xp, 1, none⟩ (.int .i64 (u))) := Kp.setCell w4 ⟨xp, 1, none⟩ (by simp) _
                have Q : Hid (∃ (x : In) (r3 : Rs), insLoop S (([105] : List UInt8).drop (0 + 1)) (0 + 1) (x, r3) = R ∧ RAt (w4.setCell ⟨xp, 1, none⟩ (.int .i64 (u))) rp S r3 ∧ r3.pos ≤ 4000000 ∧ XBox (w4.setCell ⟨xp, 1, none⟩ (.int .i64 (u))) xp x ∧ XBox (w4.setCell ⟨xp, 1, none⟩ (.int .i64 (u))) w.heap.size ⟨0, 0, 0⟩ ∧ Kp [rp] w (w4.setCell ⟨xp, 1, none⟩ (.int .i64 (u)))) := ⟨_, r4, hv ▸ Hq.out, RBox.kp h4 hks (by simp; omega), Hp4.out, hx4.setA (u), hv4.kp hks (by simp; omega), (q6.trans hk4).then hks (by simp; omega)⟩
                clear h4 hk4 Hcall q2 q4 q5 q6 hx4 hv4 yf hks Hq Hp4 c0 c1 c2 c3
                go_wp2
                go_roundg ((([105] : List UInt8)).length - (0 + 1))
                case measure => simp
                case rel => exact ⟨0 + 1, rfl, by simp, rfl, Q⟩
          · obtain rfl : i = 0 := by simp at hi; exact hi
            have Hcall : Hid _ := number_any wr rp S r3 2 (by omega) q2 hS q3
            have Hp4 : Hid ((r3.num S 2).2.pos ≤ 4000000) := r3.num_pos S 2 hS q3
            have Hq : Hid (insLoop S (([110] : List UInt8).drop (0 + 1)) (0 + 1) (x.put 0 (r3.num S 2).1, (r3.num S 2).2) = R) := by
              unfold Hid
              rw [← q1]
              simp [insLoop, argR, hk]
            have hk' : (r3.kind == 0) = true := by simpa using hk
            clear q1 hk
            go_wp2_with fail
            refine Calls.mono Hcall.out ?_
            rintro e1 w4 ⟨rfl, h4, hk4⟩
            generalize r3.num S 2 = nr at *
            obtain ⟨v, r4⟩ := nr
            simp only at *
            have hx4 := XBox.kp q4 hk4 (by simp; omega)
            have hv4 := XBox.kp q5 hk4 (by simp; omega)
            obtain ⟨y0, y1, y2, yf⟩ := hx4.cells
            have hlx := hx4.lt
            have gf := yf 1
            have hks : Kp [xp] w4 (w4.setCell ⟨xp, 1, none⟩ (.int .i64 v)) := Kp.setCell w4 ⟨xp, 1, none⟩ (by simp) _
            have Q : Hid (∃ (x : In) (r3 : Rs), insLoop S (([110] : List UInt8).drop (0 + 1)) (0 + 1) (x, r3) = R ∧ RAt (w4.setCell ⟨xp, 1, none⟩ (.int .i64 v)) rp S r3 ∧ r3.pos ≤ 4000000 ∧ XBox (w4.setCell ⟨xp, 1, none⟩ (.int .i64 v)) xp x ∧ XBox (w4.setCell ⟨xp, 1, none⟩ (.int .i64 v)) w.heap.size ⟨0, 0, 0⟩ ∧ Kp [rp] w (w4.setCell ⟨xp, 1, none⟩ (.int .i64 v))) := ⟨_, r4, Hq.out, RBox.kp h4 hks (by simp; omega), Hp4.out, hx4.setA v, hv4.kp hks (by simp; omega), (q6.trans hk4).then hks (by simp; omega)⟩
            clear h4 hk4 Hcall q2 q4 q5 q6 hx4 hv4 yf hks Hq Hp4 c0 c1 c2 c3
            go_wp2
            go_roundg ((([110] : List UInt8)).length - (0 + 1))
            case measure => simp
            case rel => exact ⟨0 + 1, rfl, by simp, rfl, Q⟩
          · obtain rfl | rfl : i = 0 ∨ i = 1 := by simp at hi; omega
            · have Hcall : Hid _ := number_any wr rp S r3 2 (by omega) q2 hS q3
              have Hp4 : Hid ((r3.num S 2).2.pos ≤ 4000000) := r3.num_pos S 2 hS q3
              have Hq : Hid (insLoop S (([110, 110] : List UInt8).drop (0 + 1)) (0 + 1) (x.put 0 (r3.num S 2).1, (r3.num S 2).2) = R) := by
                unfold Hid
                rw [← q1]
                simp [insLoop, argR, hk]
              have hk' : (r3.kind == 0) = true := by simpa using hk
              clear q1 hk
              go_wp2_with fail
              refine Calls.mono Hcall.out ?_
              rintro e1 w4 ⟨rfl, h4, hk4⟩
              generalize r3.num S 2 = nr at *
              obtain ⟨v, r4⟩ := nr
              simp only at *
              have hx4 := XBox.kp q4 hk4 (by simp; omega)
              have hv4 := XBox.kp q5 hk4 (by simp; omega)
              obtain ⟨y0, y1, y2, yf⟩ := hx4.cells
              have hlx := hx4.lt
              have gf := yf 1
              have hks : Kp [xp] w4 (w4.setCell ⟨xp, 1, none⟩ (.int .i64 v)) := Kp.setCell w4 ⟨xp, 1, none⟩ (by simp) _
              have Q : Hid (∃ (x : In) (r3 : Rs), insLoop S (([110, 110] : List UInt8).drop (0 + 1)) (0 + 1) (x, r3) = R ∧ RAt (w4.setCell ⟨xp, 1, none⟩ (.int .i64 v)) rp S r3 ∧ r3.pos ≤ 4000000 ∧ XBox (w4.setCell ⟨xp, 1, none⟩ (.int .i64 v)) xp x ∧ XBox (w4.setCell ⟨xp, 1, none⟩ (.int .i64 v)) w.heap.size ⟨0, 0, 0⟩ ∧ Kp [rp] w (w4.setCell ⟨xp, 1, none⟩ (.int .i64 v))) := ⟨_, r4, Hq.out, RBox.kp h4 hks (by simp; omega), Hp4.out, hx4.setA v, hv4.kp hks (by simp; omega), (q6.trans hk4).then hks (by simp; omega)⟩
              clear h4 hk4 Hcall q2 q4 q5 q6 hx4 hv4 yf hks Hq Hp4 c0 c1 c2 c3
              go_wp2
              go_roundg ((([110, 110] : List UInt8)).length - (0 + 1))
              case measure => simp
              case rel => exact ⟨0 + 1, rfl, by simp, rfl, Q⟩
            · have Hcall : Hid _ := number_any wr rp S r3 2 (by omega) q2 hS q3
              have Hp4 : Hid ((r3.num S 2).2.pos ≤ 4000000) := r3.num_pos S 2 hS q3
              have Hq : Hid (insLoop S (([110, 110] : List UInt8).drop (1 + 1)) (1 + 1) (x.put 1 (r3.num S 2).1, (r3.num S 2).2) = R) := by
                unfold Hid
                rw [← q1]
                simp [insLoop, argR, hk]
              have hk' : (r3.kind == 0) = true := by simpa using hk
              clear q1 hk
              go_wp2_with fail
              refine Calls.mono Hcall.out ?_
              rintro e1 w4 ⟨rfl, h4, hk4⟩
              generalize r3.num S 2 = nr at *
              obtain ⟨v, r4⟩ := nr
              simp only at *
              have hx4 := XBox.kp q4 hk4 (by simp; omega)
              have hv4 := XBox.kp q5 hk4 (by simp; omega)
              obtain ⟨y0, y1, y2, yf⟩ := hx4.cells
              have hlx := hx4.lt
              have gf := yf 2
              have hks : Kp [xp] w4 (w4.setCell ⟨xp, 2, none⟩ (.int .i64 v)) := Kp.setCell w4 ⟨xp, 2, none⟩ (by simp) _
              have Q : Hid (∃ (x : In) (r3 : Rs), insLoop S (([110, 110] : List UInt8).drop (1 + 1)) (1 + 1) (x, r3) = R ∧ RAt (w4.setCell ⟨xp, 2, none⟩ (.int .i64 v)) rp S r3 ∧ r3.pos ≤ 4000000 ∧ XBox (w4.setCell ⟨xp, 2, none⟩ (.int .i64 v)) xp x ∧ XBox (w4.setCell ⟨xp, 2, none⟩ (.int .i64 v)) w.heap.size ⟨0, 0, 0⟩ ∧ Kp [rp] w (w4.setCell ⟨xp, 2, none⟩ (.int .i64 v))) := ⟨_, r4, Hq.out, RBox.kp h4 hks (by simp; omega), Hp4.out, hx4.setB v, hv4.kp hks (by simp; omega), (q6.trans hk4).then hks (by simp; omega)⟩
              clear h4 hk4 Hcall q2 q4 q5 q6 hx4 hv4 yf hks Hq Hp4 c0 c1 c2 c3
              go_wp2
              go_roundg ((([110, 110] : List UInt8)).length - (1 + 1))
              case measure => simp
              case rel => exact ⟨1 + 1, rfl, by simp, rfl, Q⟩
        · have hk' : (r3.kind == 0) = false := by simpa using hk
          have hR : R = (x, r3) := by
            rw [← q1, List.drop_eq_getElem_cons hi]
            unfold insLoop
            rw [if_neg hk]
          subst hR
          clear q1 hk
          obtain ⟨y0, y1, y2, _⟩ := q4.cells
          obtain ⟨v0, v1, v2, vf⟩ := q5.cells
          have g0 := vf 0
          have g1 := vf 1
          have g2 := vf 2
          have hly := q4.lt
          have hlv := q5.lt
          have Q2 : Hid _ := q2
          have Q5 : Hid _ := q5
          have Q6 : Hid _ := q6
          have hkz : Kp [w.heap.size] wr (((wr.setCell ⟨w.heap.size, 0, none⟩ (.int .i64 x.op)).setCell ⟨w.heap.size, 1, none⟩ (.int .i64 x.a)).setCell ⟨w.heap.size, 2, none⟩ (.int .i64 x.b)) := ((Kp.setCell wr ⟨w.heap.size, 0, none⟩ (by simp) _).trans (Kp.setCell _ ⟨w.heap.size, 1, none⟩ (by simp) _)).trans (Kp.setCell _ ⟨w.heap.size, 2, none⟩ (by simp) _)
          obtain ⟨z0, z1, z2, _⟩ := (q5.set3 x).cells
          have Hkz : Hid _ := hkz
          clear q2 q4 q5 q6 vf hkz
          go_wp2
          refine bodyPost_ret (v := .agg #[.int .i64 x.op, .int .i64 x.a, .int .i64 x.b]) (by simp [results, Tryd.results26, go_sem, z0, z1, z2]) rfl ⟨rfl, RBox.kp Q2.out Hkz.out (by simp; omega), Kp.then Q6.out Hkz.out (by simp)⟩
      · have hi' : ¬ (i : Int) < f.length := by omega
        rw [List.drop_eq_nil_of_le (by omega)] at q1
        have hR : R = (x, r3) := by rw [← q1]; rfl
        subst hR
        clear q1
        obtain ⟨y0, y1, y2, _⟩ := q4.cells
        obtain ⟨v0, v1, v2, vf⟩ := q5.cells
        have g0 := vf 0
        have g1 := vf 1
        have g2 := vf 2
        have hly := q4.lt
        have hlv := q5.lt
        have Q2 : Hid _ := q2
        have Q5 : Hid _ := q5
        have Q6 : Hid _ := q6
        have hkz : Kp [w.heap.size] wr (((wr.setCell ⟨w.heap.size, 0, none⟩ (.int .i64 x.op)).setCell ⟨w.heap.size, 1, none⟩ (.int .i64 x.a)).setCell ⟨w.heap.size, 2, none⟩ (.int .i64 x.b)) := ((Kp.setCell wr ⟨w.heap.size, 0, none⟩ (by simp) _).trans (Kp.setCell _ ⟨w.heap.size, 1, none⟩ (by simp) _)).trans (Kp.setCell _ ⟨w.heap.size, 2, none⟩ (by simp) _)
        obtain ⟨z0, z1, z2, _⟩ := (q5.set3 x).cells
        have Hkz : Hid _ := hkz
        clear q2 q4 q5 q6 vf hkz
        go_wp2
        refine bodyPost_ret (v := .agg #[.int .i64 x.op, .int .i64 x.a, .int .i64 x.b]) (by simp [results, Tryd.results26, go_sem, z0, z1, z2]) rfl ⟨rfl, RBox.kp Q2.out Hkz.out (by simp; omega), Kp.then Q6.out Hkz.out (by simp)⟩
end
end Go.Proofs.YtlekoldicnfeeaaDoor
