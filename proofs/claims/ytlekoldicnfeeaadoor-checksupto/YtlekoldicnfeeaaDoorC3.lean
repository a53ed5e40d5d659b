/-
  The document's layer code: the bytes of an instruction (ins).
-/
import Derived.Test.YtlekoldicnfeeaaDoorC2
namespace Go.Proofs.YtlekoldicnfeeaaDoor
open Go.RowKit Go.Deep
/-- An instruction. -/
structure In where
  op : Int
  a : Int
  b : Int
instance : Inhabited In := ⟨⟨0, 0, 0⟩⟩
def In.arg (x : In) (i : Nat) : Int := if i = 0 then x.a else x.b
/-- May an operand be; its bytes. -/
def argOk (f : List UInt8) (i : Nat) (a : Int) : Bool := match f[i]? with
  | none => decide (a = 0)
  | some c => if c = 105 then decide (-1000000000 ≤ a) && decide (a ≤ 1000000000) else isTwo a
def argB (f : List UInt8) (i : Nat) (a : Int) : List UInt8 := match f[i]? with
  | none => []
  | some c => if c = 105 then big a 4 else big a 2
def In.st (x : In) : Nat → List UInt8 × Bool
  | 0 => (big x.op 1, isOp x.op)
  | i + 1 => if (x.st i).2 = true then ((x.st i).1 ++ argB (form x.op) i (x.arg i), argOk (form x.op) i (x.arg i)) else x.st i
def In.bytes (x : In) : List UInt8 := (x.st 2).1
def In.ok (x : In) : Bool := (x.st 2).2
theorem form_cases (op : Int) : form op = [] ∨ form op = [105] ∨ form op = [110] ∨ form op = [110, 110] := by
  by_cases h : 0 ≤ op ∧ op ≤ 25
  · rcases ops op h with rfl | rfl | rfl | rfl | rfl | rfl | rfl | rfl | rfl | rfl | rfl | rfl | rfl | rfl | rfl | rfl | rfl | rfl | rfl | rfl | rfl | rfl | rfl | rfl | rfl | rfl <;> simp [form, formT]
  · exact .inl (form_out h).1
theorem argB_len (f : List UInt8) (i : Nat) (a : Int) : (argB f i a).length ≤ 4 := by
  unfold argB
  split
  · simp
  · split <;> rw [big_len] <;> omega
theorem In.st_len (x : In) : ∀ i, (x.st i).1.length ≤ 1 + 4 * i
  | 0 => by simp [In.st, big_len]
  | i + 1 => by
    have h := x.st_len i
    have h2 := argB_len (form x.op) i (x.arg i)
    unfold In.st
    split
    · simp
      omega
    · omega
theorem In.bytes_len (x : In) : x.bytes.length ≤ 9 := x.st_len 2
theorem In.st_stop (x : In) {i : Nat} (h : (x.st i).2 = false) (hi : i ≤ 2) : x.st i = x.st 2 := by
  have h1 : ∀ j, (x.st j).2 = false → x.st (j + 1) = x.st j := fun j hj => by
    rw [In.st, if_neg (by simp [hj])]
  match i, hi with
  | 0, _ =>
    have e1 := h1 0 h
    rw [h1 1 (by rw [e1]; exact h), e1]
  | 1, _ => rw [h1 1 h]
  | 2, _ => rfl
section
set_option maxHeartbeats 8000000
set_option maxRecDepth 100000
theorem ins_any (x : In) (w : World) : Calls Tryd.prog 21 #[.agg #[.int .i64 x.op, .int .i64 x.a, .int .i64 x.b]] w fun e w' => e = .returned (.tuple #[.string { data := x.bytes.toArray }, .bool x.ok]) ∧ Below w.heap.size w w' := by
  obtain ⟨op, a, b⟩ := x
  have hb0 := (Below.refl w.heap.size w).alloc (Nat.le_refl _) (Obj.cells #[Value.int IntKind.i64 op, Value.int IntKind.i64 a, Value.int IntKind.i64 b] 47)
  have Hb0 : Hid _ := hb0
  have hz0 : w.heap.size < (w.alloc (Obj.cells #[Value.int IntKind.i64 op, Value.int IntKind.i64 a, Value.int IntKind.i64 b] 47)).heap.size := by simp
  have hcell : (w.alloc (Obj.cells #[Value.int IntKind.i64 op, Value.int IntKind.i64 a, Value.int IntKind.i64 b] 47)).heap[w.heap.size]? = some (.cells #[Value.int IntKind.i64 op, Value.int IntKind.i64 a, Value.int IntKind.i64 b] 47) := (MapKept.heap_alloc w _).1
  have Hcell : Hid _ := hcell
  clear hb0 hcell
  go_enter Tryd.func21, Tryd.ntmps21
  go_wp2_with (go_at_call 34; refine (form_any _ _).mono ?_; rintro e1 w1 ⟨rfl, rfl⟩)
  generalize w.alloc (Obj.cells #[Value.int IntKind.i64 op, Value.int IntKind.i64 a, Value.int IntKind.i64 b] 47) = w0 at *
  refine (big_any op 1 (by omega) w0).mono ?_
  rintro e1 w1 ⟨rfl, hb1⟩
  have hc1 : w1.heap[w.heap.size]? = some (.cells #[Value.int IntKind.i64 op, Value.int IntKind.i64 a, Value.int IntKind.i64 b] 47) := (hb1.block _ hz0).trans Hcell.out
  have x1 : w1.cell? ⟨w.heap.size, 1, none⟩ = some (.int .i64 a) := by simp [World.cell?, hc1]
  have x2 : w1.cell? ⟨w.heap.size, 2, none⟩ = some (.int .i64 b) := by simp [World.cell?, hc1]
  have hz1 : w.heap.size < w1.heap.size := Nat.lt_of_lt_of_le hz0 hb1.size
  have Hb1 : Hid (Below w.heap.size w w1) := Hb0.out.trans (hb1.mono (Nat.le_of_lt hz0))
  have Hn : Hid ((w1.alloc (Obj.cells #[Value.int IntKind.i64 a, Value.int IntKind.i64 b] 3)).heap[w1.heap.size]? = some (.cells #[Value.int IntKind.i64 a, Value.int IntKind.i64 b] 3)) := (MapKept.heap_alloc w1 _).1
  have hz2 : w1.heap.size < (w1.alloc (Obj.cells #[Value.int IntKind.i64 a, Value.int IntKind.i64 b] 3)).heap.size := by simp
  have Hb2 : Hid (Below w.heap.size w (w1.alloc (Obj.cells #[Value.int IntKind.i64 a, Value.int IntKind.i64 b] 3))) := Hb1.out.alloc Hb1.out.size _
  clear hb1 hc1 Hcell Hb0
  go_wp2_with fail
  generalize w1.alloc (Obj.cells #[Value.int IntKind.i64 a, Value.int IntKind.i64 b] 3) = w2 at *
  have Hgo : Hid (∀ i, (In.st ⟨op, a, b⟩ i).2 = true → In.st ⟨op, a, b⟩ (i + 1) = ((In.st ⟨op, a, b⟩ i).1 ++ argB (form op) i (In.arg ⟨op, a, b⟩ i), argOk (form op) i (In.arg ⟨op, a, b⟩ i))) := fun i h => by rw [In.st, if_pos h]
  have Hfc : Hid (form op = [] ∨ form op = [105] ∨ form op = [110] ∨ form op = [110, 110]) := form_cases op
  have Hst0 : Hid ((big op 1, isOp op) = In.st ⟨op, a, b⟩ 0) := rfl
  have hl1 := big_len op 1
  generalize form op = f at *
  generalize isOp op = c0 at *
  generalize big op 1 = s0 at *
  clear x1 x2
  go_loopg [5, 6, 8] 2 (fun g ov sv iv wr => ∃ (i : Nat) (s : List UInt8) (c : Bool), ov = .bool c ∧ sv = .string { data := s.toArray } ∧ iv = .int .i64 i ∧ i ≤ 2 ∧ g = 2 - i ∧ s.length ≤ 1 + 4 * i ∧ Hid ((s, c) = In.st ⟨op, a, b⟩ i ∧ Below w2.heap.size w2 wr))
  case atStart => exact ⟨0, s0, c0, rfl, rfl, rfl, by omega, rfl, by omega, Hst0.out, Below.refl _ _⟩
  case round =>
    clear Hst0
    obtain ⟨i, s, c, rfl, rfl, rfl, hi1, rfl, hsl, HR⟩ := hrel
    have Hs0 : Hid ((s, c) = In.st ⟨op, a, b⟩ i) := HR.out.1
    have HB : Hid (Below w2.heap.size w2 wr) := HR.out.2
    clear HR
    by_cases hi : i < 2
    · cases c with
      | false =>
        have hi' : (i : Int) < 2 := by omega
        have he := In.st_stop ⟨op, a, b⟩ (i := i) (by rw [← Hs0.out]) (by omega)
        rw [← Hs0.out] at he
        have He : Hid _ := he
        clear he
        go_wp2
        refine bodyPost_ret (v := .tuple #[.string { data := s.toArray }, .bool false]) (by simp [results, Tryd.results21, go_sem]) rfl ⟨?_, Hb2.out.trans (HB.out.mono Hb2.out.size)⟩
        have h1 : In.bytes ⟨op, a, b⟩ = s := by unfold In.bytes; rw [← He.out]
        have h2 : In.ok ⟨op, a, b⟩ = false := by unfold In.ok; rw [← He.out]
        rw [h1, h2]
      | true =>
        have hc2 : wr.heap[w1.heap.size]? = some (.cells #[Value.int IntKind.i64 a, Value.int IntKind.i64 b] 3) := (HB.out.block _ hz2).trans Hn.out
        have hzr : w1.heap.size < wr.heap.size := Nat.lt_of_lt_of_le hz2 HB.out.size
        have Hs : Hid (In.st ⟨op, a, b⟩ (i + 1) = (s ++ argB f i (In.arg ⟨op, a, b⟩ i), argOk f i (In.arg ⟨op, a, b⟩ i))) := by
          unfold Hid
          rw [Hgo.out i (by rw [← Hs0.out]), ← Hs0.out]
        clear Hs0
        have y0 : wr.cell? ⟨w1.heap.size, 0, none⟩ = some (.int .i64 a) := by simp [World.cell?, hc2]
        have y1 : wr.cell? ⟨w1.heap.size, 1, none⟩ = some (.int .i64 b) := by simp [World.cell?, hc2]
        clear hc2
        have hfc := Hfc.out
        clear Hfc
        obtain rfl | rfl : i = 0 ∨ i = 1 := by omega
        · rcases hfc with rfl | rfl | rfl | rfl
          · clear Hgo
            have Q : Hid ((s, decide (a = 0)) = In.st ⟨op, a, b⟩ (0 + 1) ∧ Below w2.heap.size w2 wr) := ⟨by rw [Hs.out]; simp [argB, argOk, In.arg], HB.out⟩
            clear Hs HB
            by_cases hv : a = 0
            · have hv' : (a == 0) = true := by simpa using hv
              rw [decide_eq_true hv] at Q
              clear hv
              go_wp2
              go_roundg (2 - (0 + 1))
              case measure => omega
              case rel => exact ⟨0 + 1, s, true, rfl, rfl, rfl, by omega, rfl, by omega, Q⟩
            · have hv' : (a == 0) = false := by simpa using hv
              rw [decide_eq_false hv] at Q
              clear hv
              go_wp2
              go_roundg (2 - (0 + 1))
              case measure => omega
              case rel => exact ⟨0 + 1, s, false, rfl, rfl, rfl, by omega, rfl, by omega, Q⟩
          · by_cases h1 : a ≤ 1000000000
            · by_cases h2 : -1000000000 ≤ a
              · have Hq : Hid ((s ++ big a 4, true) = In.st ⟨op, a, b⟩ (0 + 1)) := by unfold Hid; rw [Hs.out]; simp [argB, argOk, In.arg, h1, h2]
                clear Hs
                go_wp2_with fail
                refine (big_any a 4 (by omega) wr).mono ?_
                rintro e9 w3 ⟨rfl, hb3⟩
                have Q : Hid ((s ++ big a 4, true) = In.st ⟨op, a, b⟩ (0 + 1) ∧ Below w2.heap.size w2 w3) := ⟨Hq.out, HB.out.trans (hb3.mono HB.out.size)⟩
                have hl4 := big_len a 4
                clear hb3 HB Hq
                go_wp2
                go_roundg (2 - (0 + 1))
                case measure => omega
                case rel => exact ⟨0 + 1, s ++ big a 4, true, rfl, str_app _ _, rfl, by omega, rfl, by simp; omega, Q⟩
              · have Hq : Hid ((s ++ big a 4, false) = In.st ⟨op, a, b⟩ (0 + 1)) := by unfold Hid; rw [Hs.out]; simp [argB, argOk, In.arg, h1, h2]
                clear Hs
                go_wp2_with fail
                refine (big_any a 4 (by omega) wr).mono ?_
                rintro e9 w3 ⟨rfl, hb3⟩
                have Q : Hid ((s ++ big a 4, false) = In.st ⟨op, a, b⟩ (0 + 1) ∧ Below w2.heap.size w2 w3) := ⟨Hq.out, HB.out.trans (hb3.mono HB.out.size)⟩
                have hl4 := big_len a 4
                clear hb3 HB Hq
                go_wp2
                go_roundg (2 - (0 + 1))
                case measure => omega
                case rel => exact ⟨0 + 1, s ++ big a 4, false, rfl, str_app _ _, rfl, by omega, rfl, by simp; omega, Q⟩
            · have Hq : Hid ((s ++ big a 4, false) = In.st ⟨op, a, b⟩ (0 + 1)) := by unfold Hid; rw [Hs.out]; simp [argB, argOk, In.arg, h1]
              clear Hs
              go_wp2_with fail
              refine (big_any a 4 (by omega) wr).mono ?_
              rintro e9 w3 ⟨rfl, hb3⟩
              have Q : Hid ((s ++ big a 4, false) = In.st ⟨op, a, b⟩ (0 + 1) ∧ Below w2.heap.size w2 w3) := ⟨Hq.out, HB.out.trans (hb3.mono HB.out.size)⟩
              have hl4 := big_len a 4
              clear hb3 HB Hq
              go_wp2
              go_roundg (2 - (0 + 1))
              case measure => omega
              case rel => exact ⟨0 + 1, s ++ big a 4, false, rfl, str_app _ _, rfl, by omega, rfl, by simp; omega, Q⟩
          · have Hq : Hid ((s ++ big a 2, isTwo a) = In.st ⟨op, a, b⟩ (0 + 1)) := by unfold Hid; rw [Hs.out]; simp [argB, argOk, In.arg]
            clear Hs
            go_wp2_with fail
            refine (two_any a wr).mono ?_
            rintro e9 w3 ⟨rfl, hb3⟩
            have Q : Hid ((s ++ big a 2, isTwo a) = In.st ⟨op, a, b⟩ (0 + 1) ∧ Below w2.heap.size w2 w3) := ⟨Hq.out, HB.out.trans (hb3.mono HB.out.size)⟩
            have hl4 := big_len a 2
            clear hb3 HB Hq
            go_wp2
            go_roundg (2 - (0 + 1))
            case measure => omega
            case rel => exact ⟨0 + 1, s ++ big a 2, isTwo a, rfl, str_app _ _, rfl, by omega, rfl, by simp; omega, Q⟩
          · have Hq : Hid ((s ++ big a 2, isTwo a) = In.st ⟨op, a, b⟩ (0 + 1)) := by unfold Hid; rw [Hs.out]; simp [argB, argOk, In.arg]
            clear Hs
            go_wp2_with fail
            refine (two_any a wr).mono ?_
            rintro e9 w3 ⟨rfl, hb3⟩
            have Q : Hid ((s ++ big a 2, isTwo a) = In.st ⟨op, a, b⟩ (0 + 1) ∧ Below w2.heap.size w2 w3) := ⟨Hq.out, HB.out.trans (hb3.mono HB.out.size)⟩
            have hl4 := big_len a 2
            clear hb3 HB Hq
            go_wp2
            go_roundg (2 - (0 + 1))
            case measure => omega
            case rel => exact ⟨0 + 1, s ++ big a 2, isTwo a, rfl, str_app _ _, rfl, by omega, rfl, by simp; omega, Q⟩
        · rcases hfc with rfl | rfl | rfl | rfl
          · clear Hgo
            have Q : Hid ((s, decide (b = 0)) = In.st ⟨op, a, b⟩ (1 + 1) ∧ Below w2.heap.size w2 wr) := ⟨by rw [Hs.out]; simp [argB, argOk, In.arg], HB.out⟩
            clear Hs HB
            by_cases hv : b = 0
            · have hv' : (b == 0) = true := by simpa using hv
              rw [decide_eq_true hv] at Q
              clear hv
              go_wp2
              go_roundg (2 - (1 + 1))
              case measure => omega
              case rel => exact ⟨1 + 1, s, true, rfl, rfl, rfl, by omega, rfl, by omega, Q⟩
            · have hv' : (b == 0) = false := by simpa using hv
              rw [decide_eq_false hv] at Q
              clear hv
              go_wp2
              go_roundg (2 - (1 + 1))
              case measure => omega
              case rel => exact ⟨1 + 1, s, false, rfl, rfl, rfl, by omega, rfl, by omega, Q⟩
          · clear Hgo
            have Q : Hid ((s, decide (b = 0)) = In.st ⟨op, a, b⟩ (1 + 1) ∧ Below w2.heap.size w2 wr) := ⟨by rw [Hs.out]; simp [argB, argOk, In.arg], HB.out⟩
            clear Hs HB
            by_cases hv : b = 0
            · have hv' : (b == 0) = true := by simpa using hv
              rw [decide_eq_true hv] at Q
              clear hv
              go_wp2
              go_roundg (2 - (1 + 1))
              case measure => omega
              case rel => exact ⟨1 + 1, s, true, rfl, rfl, rfl, by omega, rfl, by omega, Q⟩
            · have hv' : (b == 0) = false := by simpa using hv
              rw [decide_eq_false hv] at Q
              clear hv
              go_wp2
              go_roundg (2 - (1 + 1))
              case measure => omega
              case rel => exact ⟨1 + 1, s, false, rfl, rfl, rfl, by omega, rfl, by omega, Q⟩
          · clear Hgo
            have Q : Hid ((s, decide (b = 0)) = In.st ⟨op, a, b⟩ (1 + 1) ∧ Below w2.heap.size w2 wr) := ⟨by rw [Hs.out]; simp [argB, argOk, In.arg], HB.out⟩
            clear Hs HB
            by_cases hv : b = 0
            · have hv' : (b == 0) = true := by simpa using hv
              rw [decide_eq_true hv] at Q
              clear hv
              go_wp2
              go_roundg (2 - (1 + 1))
              case measure => omega
              case rel => exact ⟨1 + 1, s, true, rfl, rfl, rfl, by omega, rfl, by omega, Q⟩
            · have hv' : (b == 0) = false := by simpa using hv
              rw [decide_eq_false hv] at Q
              clear hv
              go_wp2
              go_roundg (2 - (1 + 1))
              case measure => omega
              case rel => exact ⟨1 + 1, s, false, rfl, rfl, rfl, by omega, rfl, by omega, Q⟩
          · have Hq : Hid ((s ++ big b 2, isTwo b) = In.st ⟨op, a, b⟩ (1 + 1)) := by unfold Hid; rw [Hs.out]; simp [argB, argOk, In.arg]
            clear Hs
            go_wp2_with fail
            refine (two_any b wr).mono ?_
            rintro e9 w3 ⟨rfl, hb3⟩
            have Q : Hid ((s ++ big b 2, isTwo b) = In.st ⟨op, a, b⟩ (1 + 1) ∧ Below w2.heap.size w2 w3) := ⟨Hq.out, HB.out.trans (hb3.mono HB.out.size)⟩
            have hl4 := big_len b 2
            clear hb3 HB Hq
            go_wp2
            go_roundg (2 - (1 + 1))
            case measure => omega
            case rel => exact ⟨1 + 1, s ++ big b 2, isTwo b, rfl, str_app _ _, rfl, by omega, rfl, by simp; omega, Q⟩
    · have hi' : ¬ (i : Int) < 2 := by omega
      obtain rfl : i = 2 := by omega
      go_wp2
      refine bodyPost_ret (v := .tuple #[.string { data := s.toArray }, .bool c]) (by simp [results, Tryd.results21, go_sem]) rfl ⟨?_, Hb2.out.trans (HB.out.mono Hb2.out.size)⟩
      have h1 : In.bytes ⟨op, a, b⟩ = s := by unfold In.bytes; rw [← Hs0.out]
      have h2 : In.ok ⟨op, a, b⟩ = c := by unfold In.ok; rw [← Hs0.out]
      rw [h1, h2]
end
end Go.Proofs.YtlekoldicnfeeaaDoor
