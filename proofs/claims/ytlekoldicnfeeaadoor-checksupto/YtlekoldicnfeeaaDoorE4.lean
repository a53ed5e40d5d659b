/-
  The program's Encode: how many bytes a code that fits has (length).
-/
import Derived.Test.YtlekoldicnfeeaaDoorE3
namespace Go.Proofs.YtlekoldicnfeeaaDoor
open Go.RowKit Go.Deep
theorem argB_none (f : List UInt8) (i : Nat) (h : f[i]? = none) (a : Int) : argB f i a = [] := by
  unfold argB
  rw [h]
theorem argB_i (a : Int) : argB [105] 0 a = big a 4 := by
  unfold argB
  simp
theorem argB_n (f : List UInt8) (i : Nat) (h : f[i]? = some 110) (a : Int) : argB f i a = big a 2 := by
  unfold argB
  rw [h]
  simp
theorem In.bytes_width (x : In) (h : x.ok = true) (k : Nat) (hk : x.op = (k : Int)) (h26 : k < 26) : ∃ j : Nat, kindOf k = (j : Int) ∧ j < 4 ∧ (x.bytes.length : Int) = 1 + widthOf j ∧ 0 ≤ widthOf j ∧ widthOf j ≤ 4 := by
  rw [x.bytes_of h, hk]
  rcases kind_form k h26 with ⟨h1, h2⟩ | ⟨h1, h2⟩ | ⟨h1, h2⟩ | ⟨h1, h2⟩
  · refine ⟨0, h1, by omega, ?_, by decide, by decide⟩
    rw [h2, argB_none [] 0 rfl, argB_none [] 1 rfl]
    simp [big_len, widthOf, widthT]
  · refine ⟨1, h1, by omega, ?_, by decide, by decide⟩
    rw [h2, argB_i, argB_none [105] 1 rfl]
    simp [big_len, widthOf, widthT]
  · refine ⟨2, h1, by omega, ?_, by decide, by decide⟩
    rw [h2, argB_n [110] 0 rfl, argB_none [110] 1 rfl]
    simp [big_len, widthOf, widthT]
  · refine ⟨3, h1, by omega, ?_, by decide, by decide⟩
    rw [h2, argB_n [110, 110] 0 rfl, argB_n [110, 110] 1 rfl]
    simp [big_len, widthOf, widthT]
theorem flat_most {α : Type} (g : α → List UInt8) (m : Nat) : ∀ (l : List α), (∀ x ∈ l, (g x).length ≤ m) → (l.flatMap g).length ≤ l.length * m
  | [], _ => by simp
  | x :: l, h => by
    have h1 := h x (by simp)
    have h2 := flat_most g m l (fun y hy => h y (by simp [hy]))
    rw [List.flatMap_cons, List.length_append, List.length_cons, Nat.add_mul]
    omega
theorem Fn.bytes_le (f : Fn) (h : f.ok = true) : f.bytes.length ≤ 589821 := by
  unfold Fn.ok at h
  rw [isTwo_len] at h
  simp only [Bool.and_eq_true, decide_eq_true_eq] at h
  unfold Fn.bytes
  simp only [List.length_append, big_len]
  have := flat_most In.bytes 9 f.ins (fun x _ => x.bytes_len)
  omega
theorem Cd.bytes_le (c : Cd) (h : c.ok = true) : c.bytes.length ≤ 40000000000 := by
  unfold Cd.ok at h
  rw [isTwo_len, isTwo_len] at h
  simp only [Bool.and_eq_true, decide_eq_true_eq, List.all_eq_true] at h
  obtain ⟨h1, h2, h3, h4⟩ := h
  unfold Cd.bytes
  simp only [List.length_append, big_len, List.length_cons, List.length_nil]
  have a := flat_most textB 201 c.texts (fun x hx => by
    have := h2 x hx
    unfold textOk at this
    have := of_decide_eq_true this
    unfold textB
    rw [List.length_append, big_len]
    have : x.data.toList.length = x.size := by rw [Array.length_toList]; rfl
    omega)
  have b := flat_most Fn.bytes 589821 c.funs (fun f hf => f.bytes_le (h4 f hf))
  omega
theorem textB_len (t : ByteArray) : (textB t).length = 1 + t.size := by
  unfold textB
  rw [List.length_append, big_len, Array.length_toList]
  rfl
theorem Fn.bytes_len (f : Fn) : f.bytes.length = 6 + (f.ins.flatMap In.bytes).length := by
  unfold Fn.bytes
  simp only [List.length_append, big_len]
  omega
theorem Cd.bytes_len (ts : List ByteArray) (fs : List Fn) : (Cd.bytes ⟨ts, fs⟩).length = 7 + ((ts.flatMap textB).length + (fs.flatMap Fn.bytes).length) := by
  unfold Cd.bytes
  simp only [List.length_append, big_len, List.length_cons, List.length_nil]
  omega
section
set_option maxHeartbeats 8000000
set_option maxRecDepth 100000
theorem length_any (ts : List ByteArray) (fs : List Fn) (p : Option Addr) (cap : Nat) (p' : Option Addr) (cap' : Nat) (w : World) (hS : ShIn w) (hW : WdIn w) (hT : TextsIn w p ts) (hF : FunsIn w p' fs) (hok : Cd.ok ⟨ts, fs⟩ = true) :
    Calls Tryd.prog 17 #[.agg #[.slice p ts.length cap, .slice p' fs.length cap']] w fun e w' => e = .returned (.int .i64 (Cd.bytes ⟨ts, fs⟩).length) ∧ Below w.heap.size w w' := by
  have hN := Cd.bytes_le _ hok
  have hN2 := Cd.bytes_len ts fs
  generalize (Cd.bytes ⟨ts, fs⟩).length = N at *
  unfold Cd.ok at hok
  rw [isTwo_len, isTwo_len] at hok
  simp only [Bool.and_eq_true, decide_eq_true_eq] at hok
  obtain ⟨o1, o2, o3, o4⟩ := hok
  have hb0 := (Below.refl w.heap.size w).alloc (Nat.le_refl _) (Obj.cells #[Value.slice p ts.length cap, Value.slice p' fs.length cap'] 25)
  have hx : CBox (w.alloc (Obj.cells #[Value.slice p ts.length cap, Value.slice p' fs.length cap'] 25)) w.heap.size p ts.length cap p' fs.length cap' := (MapKept.heap_alloc w _).1
  have HS : Hid _ := hS.below hb0
  have HW : Hid _ := hW.below hb0
  have HT : Hid _ := hT.below hb0
  have HF : Hid _ := hF.below hb0
  have Hb0 : Hid _ := hb0
  have Hx : Hid _ := hx
  have O2 : Hid (ts.all textOk = true) := o2
  have O4 : Hid (fs.all Fn.ok = true) := o4
  have HN2 : Hid _ := hN2
  clear hS hT hF hb0 hx hW hN2 o2 o4
  go_enter Tryd.func17, Tryd.ntmps17
  go_upto_region 2 with fail
  generalize w.alloc (Obj.cells #[Value.slice p ts.length cap, Value.slice p' fs.length cap'] 25) = w0 at *
  obtain ⟨x0, x1, x2⟩ := CBox.cells Hx.out
  go_wp2_with fail
  go_loopg [3, 13] ts.length (fun g mv iv wr => ∃ (i m : Nat), mv = .int .i64 m ∧ iv = .int .i64 i ∧ i ≤ ts.length ∧ g = ts.length - i ∧ m ≤ N ∧ wr = w0 ∧ Hid (m + (((ts.drop i).flatMap textB).length + (fs.flatMap Fn.bytes).length) = N ∧ (ts.drop i).all textOk = true))
  case atStart => exact ⟨0, 7, rfl, rfl, by omega, by omega, by have := HN2.out; omega, rfl, HN2.out.symm, O2.out⟩
  case round =>
    obtain ⟨i, m, rfl, rfl, hi1, rfl, hm, hw, HR⟩ := hrel
    have hw := hw.symm
    subst hw
    by_cases hi : i < ts.length
    · have hi' : (i : Int) < ts.length := by omega
      obtain ⟨r1, r2⟩ := HR.out
      clear HR
      obtain ⟨b, o, rfl, hbw, y0⟩ := HT.out.get i hi
      rw [drop_all textOk ts i hi, Bool.and_eq_true] at r2
      rw [drop_flat textB ts i hi, List.length_append, textB_len] at r1
      generalize ts[i]'hi = x at *
      have h2 : x.size ≤ 200 := by
        have := of_decide_eq_true r2.1
        omega
      have hm2 : m + (1 + x.size) ≤ N := by omega
      have Q : Hid ((m + (1 + x.size)) + (((ts.drop (i + 1)).flatMap textB).length + (fs.flatMap Fn.bytes).length) = N ∧ (ts.drop (i + 1)).all textOk = true) := ⟨by omega, r2.2⟩
      clear r1 r2
      go_wp2
      go_roundg (ts.length - (i + 1))
      case measure => omega
      case rel => exact ⟨i + 1, m + (1 + x.size), by first | rfl | (congr 1; omega) | go_num, by first | rfl | (congr 1; omega) | go_num, by omega, rfl, hm2, rfl, Q⟩
    · have hi' : ¬ (i : Int) < ts.length := by omega
      obtain ⟨r1, r2⟩ := HR.out
      rw [drop_done ts i hi] at r1
      have Q0 : Hid (m + (fs.flatMap Fn.bytes).length = N) := by
        unfold Hid
        simp only [List.flatMap_nil, List.length_nil] at r1
        omega
      clear HR r1 r2
      go_wp2_with fail
      go_loopg [3, 26] fs.length (fun g mv iv wr => ∃ (k m : Nat), mv = .int .i64 m ∧ iv = .int .i64 k ∧ k ≤ fs.length ∧ g = fs.length - k ∧ m ≤ N ∧ Hid (m + ((fs.drop k).flatMap Fn.bytes).length = N ∧ (fs.drop k).all Fn.ok = true ∧ Below w0.heap.size w0 wr))
      case atStart => exact ⟨0, m, rfl, rfl, by omega, by omega, hm, Q0.out, O4.out, Below.refl _ _⟩
      case round =>
        clear Q0 hm
        obtain ⟨k, m, rfl, rfl, hk1, rfl, hm, HR⟩ := hrel
        by_cases hk : k < fs.length
        · have hk' : (k : Int) < fs.length := by omega
          obtain ⟨r1, r2, r3⟩ := HR.out
          obtain ⟨b, o, q, qc, rfl, hbw, hfc, hIn⟩ := HF.out.get k hk
          have hfc2 := hfc.below hbw r3
          have hbr := Nat.lt_of_lt_of_le hbw r3.size
          rw [drop_all Fn.ok fs k hk, Bool.and_eq_true] at r2
          rw [drop_flat Fn.bytes fs k hk, List.length_append, Fn.bytes_len] at r1
          generalize fs[k]'hk = f at *
          obtain ⟨y0, y1, y2⟩ := hfc2
          have hba : Below w0.heap.size w0 (wr.alloc (Obj.cells #[Value.int IntKind.i64 f.free, Value.int IntKind.i64 f.slots, Value.slice q f.ins.length qc] 50)) := r3.alloc r3.size _
          have hfb : FBox (wr.alloc (Obj.cells #[Value.int IntKind.i64 f.free, Value.int IntKind.i64 f.slots, Value.slice q f.ins.length qc] 50)) wr.heap.size f q qc := (MapKept.heap_alloc wr _).1
          have HI : Hid _ := hIn.below hba
          have hnl := hIn.len
          have Hfb : Hid _ := hfb
          have Hba : Hid _ := hba
          have hf := r2.1
          unfold Fn.ok at hf
          rw [isTwo_len] at hf
          simp only [Bool.and_eq_true, decide_eq_true_eq] at hf
          have hfl := hf.2.2.1
          have HAll : Hid (f.ins.all In.ok = true) := hf.2.2.2
          have HRest : Hid ((fs.drop (k + 1)).all Fn.ok = true) := r2.2
          have hm6 : m + 6 ≤ N := by omega
          have Q : Hid ((m + 6) + ((f.ins.flatMap In.bytes).length + ((fs.drop (k + 1)).flatMap Fn.bytes).length) = N) := by unfold Hid; omega
          clear HR r1 r2 r3 hfc hIn hfb hba hbw hf
          go_upto_region 10 with fail
          clear y0 y1 y2 hbr x0 x1 x2
          generalize wr.alloc (Obj.cells #[Value.int IntKind.i64 f.free, Value.int IntKind.i64 f.slots, Value.slice q f.ins.length qc] 50) = w3 at *
          obtain ⟨z0, z1, z2, z3⟩ := FBox.cells Hfb.out
          go_wp2_with fail
          go_loopg [3, 35] f.ins.length (fun g mv iv wr => ∃ (j m : Nat), mv = .int .i64 m ∧ iv = .int .i64 j ∧ j ≤ f.ins.length ∧ g = f.ins.length - j ∧ m ≤ N ∧ Hid (m + (((f.ins.drop j).flatMap In.bytes).length + ((fs.drop (k + 1)).flatMap Fn.bytes).length) = N ∧ (f.ins.drop j).all In.ok = true ∧ Below w3.heap.size w3 wr))
          case atStart => exact ⟨0, m + 6, by first | rfl | (congr 1; omega) | go_num, rfl, by omega, by omega, hm6, Q.out, HAll.out, Below.refl _ _⟩
          case round =>
            clear Q hm6 hm
            obtain ⟨j, m, rfl, rfl, hj1, rfl, hm, HR⟩ := hrel
            clear z0 z1 z2 z3
            by_cases hj : j < f.ins.length
            · have hj' : (j : Int) < f.ins.length := by omega
              obtain ⟨r1, r2, r3⟩ := HR.out
              obtain ⟨b2, o2, hq, hbw, y0, y1, y2⟩ := HI.out.get j hj
              subst hq
              rw [drop_all In.ok f.ins j hj, Bool.and_eq_true] at r2
              rw [drop_flat In.bytes f.ins j hj, List.length_append] at r1
              generalize f.ins[j]'hj = x at *
              obtain ⟨kk, hkk, hk26⟩ := isOp_nat (In.ok_op r2.1)
              obtain ⟨jj, hjj, hj4, hlen, hw0, hw4⟩ := In.bytes_width x r2.1 kk hkk hk26
              obtain ⟨op, a, b'⟩ := x
              simp only at hkk
              subst hkk
              have hk1 := r3.alloc r3.size (Obj.cells #[Value.int IntKind.i64 (kk : Int), Value.int IntKind.i64 a, Value.int IntKind.i64 b'] 47)
              have hall : Below w0.heap.size w0 (wr.alloc (Obj.cells #[Value.int IntKind.i64 (kk : Int), Value.int IntKind.i64 a, Value.int IntKind.i64 b'] 47)) := Below.then Hba.out hk1 (Nat.le_refl _)
              have v0 : wr.cell? ⟨b2, o2 + j * 3, none⟩ = some (.int .i64 (kk : Int)) := (r3.cell (p := ⟨b2, o2 + j * 3, none⟩) hbw).trans y0
              have v1 : wr.cell? ⟨b2, o2 + j * 3 + 1, none⟩ = some (.int .i64 a) := (r3.cell (p := ⟨b2, o2 + j * 3 + 1, none⟩) hbw).trans y1
              have v2 : wr.cell? ⟨b2, o2 + j * 3 + 2, none⟩ = some (.int .i64 b') := (r3.cell (p := ⟨b2, o2 + j * 3 + 2, none⟩) hbw).trans y2
              have hbr : b2 < wr.heap.size := Nat.lt_of_lt_of_le hbw r3.size
              obtain ⟨c0, -, -⟩ := (ShIn.below HS.out hall).cells kk hk26
              have c1 := (WdIn.below HW.out hall).cell jj hj4
              rw [hjj] at c0
              generalize widthOf jj = wd at *
              have hbl : (In.bytes ⟨kk, a, b'⟩).length = (1 + wd).toNat := by omega
              rw [hbl] at r1
              have hm2 : m + (1 + wd).toNat ≤ N := by omega
              have hkk' : (kk : Int) < 26 := by omega
              have hjj' : (jj : Int) < 4 := by omega
              have Q : Hid ((m + (1 + wd).toNat) + (((f.ins.drop (j + 1)).flatMap In.bytes).length + ((fs.drop (k + 1)).flatMap Fn.bytes).length) = N ∧ (f.ins.drop (j + 1)).all In.ok = true ∧ Below w3.heap.size w3 (wr.alloc (Obj.cells #[Value.int IntKind.i64 (kk : Int), Value.int IntKind.i64 a, Value.int IntKind.i64 b'] 47))) := ⟨by omega, r2.2, hk1⟩
              clear HR r1 r2 r3 y0 y1 y2 hk1 hall hbw hlen hbl
              go_wp2
              go_roundg (f.ins.length - (j + 1))
              case measure => omega
              case rel => exact ⟨j + 1, m + (1 + wd).toNat, by first | rfl | (congr 1; omega) | go_num, by first | rfl | (congr 1; omega) | go_num, by omega, rfl, hm2, Q⟩
            · have hj' : ¬ (j : Int) < f.ins.length := by omega
              obtain ⟨r1, r2, r3⟩ := HR.out
              rw [drop_done f.ins j hj] at r1
              have Q : Hid (m + ((fs.drop (k + 1)).flatMap Fn.bytes).length = N ∧ (fs.drop (k + 1)).all Fn.ok = true ∧ Below w0.heap.size w0 wr) := ⟨by simp only [List.flatMap_nil, List.length_nil] at r1; omega, HRest.out, Below.then Hba.out r3 (Nat.le_refl _)⟩
              clear HR r1 r2 r3
              go_wp2
              go_roundg (fs.length - (k + 1))
              case measure => omega
              case rel => exact ⟨k + 1, m, rfl, by first | rfl | (congr 1; omega) | go_num, by omega, rfl, hm, Q⟩
        · have hk' : ¬ (k : Int) < fs.length := by omega
          obtain ⟨r1, r2, r3⟩ := HR.out
          rw [drop_done fs k hk] at r1
          simp only [List.flatMap_nil, List.length_nil] at r1
          obtain rfl : m = N := by omega
          clear HR r1
          have R3 : Hid _ := r3
          clear r3
          go_wp2
          go_ret
          exact ⟨rfl, Below.trans Hb0.out (R3.out.mono (Below.size Hb0.out))⟩
end
end Go.Proofs.YtlekoldicnfeeaaDoor
