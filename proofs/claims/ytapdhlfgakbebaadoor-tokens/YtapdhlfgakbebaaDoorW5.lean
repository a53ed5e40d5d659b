/-
  The walk of readNumber: a number, or none if it is too great, as the plain words say; nothing old changes.
-/
import Derived.Test.YtapdhlfgakbebaaDoorW4
namespace Go.Proofs.YtapdhlfgakbebaaDoor
open Go.RowKit
theorem mem_front {p : UInt8 → Bool} {c : UInt8} : ∀ {l : List UInt8}, c ∈ l.takeWhile p → p c = true
  | [], h => by simp at h
  | x :: r, h => by
    rw [List.takeWhile_cons] at h
    cases hx : p x
    · rw [hx] at h; simp at h
    · rw [hx] at h
      simp only [if_true, List.mem_cons] at h
      rcases h with h | h
      · rw [h]; exact hx
      · exact mem_front h

theorem num_val (acc c : Nat) (hc : 48 ≤ c ∧ c ≤ 57) : Value.int IntKind.i64 (if 1000000001 < 10 * (acc : Int) + ((c : Int) - 48) then 1000000001 else 10 * (acc : Int) + ((c : Int) - 48)) = Value.int IntKind.i64 ((min (10 * acc + (c - 48)) 1000000001 : Nat) : Int) := by
  have e : (if 1000000001 < 10 * (acc : Int) + ((c : Int) - 48) then (1000000001 : Int) else 10 * (acc : Int) + ((c : Int) - 48)) = ((min (10 * acc + (c - 48)) 1000000001 : Nat) : Int) := by
    split <;> omega
  rw [e]
set_option maxHeartbeats 1000000 in
theorem readNumber_any (s : ByteArray) (a : Int) (w : World) (h0 : 0 ≤ a) (h1 : a < s.size) (hs : s.size ≤ 4000) (hA : ∀ i (h : i < s.size), (s[i]'h).toNat < 128) :
    Calls Tryd.prog 22 #[.string s, .int .i64 a] w fun e w' => e = .returned (tokVal a (Lx.tokNum (s.data.toList.drop a.toNat))) ∧ Below w.heap.size w w' := by
  have hl1 := front_le Lx.isDigit (s.data.toList.drop a.toNat)
  rw [drop_len] at hl1
  -- the digits, as a piece of the text
  have hTd : (s.extract a.toNat (a + (((s.data.toList.drop a.toNat).takeWhile Lx.isDigit).length : Nat)).toNat).data.toList = (s.data.toList.drop a.toNat).takeWhile Lx.isDigit := by
    rw [Lib.extract_data, show (a + (((s.data.toList.drop a.toNat).takeWhile Lx.isDigit).length : Nat)).toNat - a.toNat = ((s.data.toList.drop a.toNat).takeWhile Lx.isDigit).length from by omega]
    exact List.prefix_iff_eq_take.1 (List.takeWhile_prefix _) |>.symm
  have hTsz : (s.extract a.toNat (a + (((s.data.toList.drop a.toNat).takeWhile Lx.isDigit).length : Nat)).toNat).size = ((s.data.toList.drop a.toNat).takeWhile Lx.isDigit).length := by rw [Lib.size_eq, hTd]
  have hdig : ∀ c ∈ (s.data.toList.drop a.toNat).takeWhile Lx.isDigit, Lx.isDigit c = true := fun c hc => mem_front hc
  have hgoal : Lx.tokNum (s.data.toList.drop a.toNat) = (if 1000000000 < Lx.num 0 ((s.data.toList.drop a.toNat).takeWhile Lx.isDigit) then none else some (⟨1, [], Lx.num 0 ((s.data.toList.drop a.toNat).takeWhile Lx.isDigit)⟩, ((s.data.toList.drop a.toNat).takeWhile Lx.isDigit).length)) := rfl
  rw [hgoal]
  clear hgoal
  generalize hD : (s.data.toList.drop a.toNat).takeWhile Lx.isDigit = D at *
  have HD : Hid _ := hD
  clear hD
  generalize hR : (if 1000000000 < Lx.num 0 D then none else some ((⟨1, [], Lx.num 0 D⟩ : Lx.Tok), D.length)) = R
  have HR : Hid _ := hR
  clear hR
  generalize hT : s.extract a.toNat (a + ((D.length : Nat) : Int)).toNat = T at *
  have HT : Hid _ := hT
  clear hT
  have hdT : ∀ i (h : i < T.size), 48 ≤ (T[i]'h).toNat ∧ (T[i]'h).toNat ≤ 57 := by
    intro i h
    have hm : T[i]'h ∈ D := by rw [← hTd]; exact List.mem_of_getElem? (Lib.data_getElem? T i h)
    exact (isDigit_iff _).1 (hdig _ hm)
  clear hdig
  go_enter Tryd.func22, Tryd.ntmps22
  go_wp2_with fail
  refine (span_any s _ _ _ (by omega) (by omega) hs hA).mono ?_
  rintro e w1 ⟨rfl, hb1⟩
  rw [inS_digit, HD.out]
  have HTd : Hid _ := hTd
  clear hTd
  go_wp2_with fail
  rw [HT.out]
  have hbi : ∀ p, Below (w.alloc (Obj.cells #[Value.int IntKind.i64 0, Value.int IntKind.i64 0, Value.string { data := #[] }, Value.int IntKind.i64 0] 31)).heap.size (w.alloc (Obj.cells #[Value.int IntKind.i64 0, Value.int IntKind.i64 0, Value.string { data := #[] }, Value.int IntKind.i64 0] 31)) (w1.iter T p) := fun p => hb1.alloc hb1.size _
  have HB : Hid _ := hbi
  clear hbi hb1
  go_loopw [6] (fun n w' => ∃ (pos acc : Nat), pos ≤ T.size ∧ w' = w1.iter T pos ∧ n = .int .i64 acc ∧ acc ≤ 1000000001 ∧ Lx.num acc (D.drop pos) = Lx.num 0 D) (fun _ w' => T.size - w'.iterPos w1.heap.size)
  case atStart => exact ⟨0, 0, Nat.zero_le _, rfl, rfl, by omega, rfl⟩
  case round =>
    obtain ⟨pos, acc, hle, rfl, rfl, hac, hp⟩ := hrel
    have Hp : Hid _ := hp
    clear hp
    by_cases hlt : pos < T.size
    · have hc := hdT pos hlt
      have hnx := fun ty => next_ascii (P := Tryd.prog) w1 w1.heap.size rfl T pos ty hlt (by omega)
      have hdr : Hid (D.drop pos = T[pos] :: D.drop (pos + 1)) := by rw [← HTd.out]; exact drop_at T pos hlt
      go_wp2
      refine ⟨⟨pos + 1, min (10 * acc + (T[pos].toNat - 48)) 1000000001, by omega, rfl, num_val _ _ hc, by omega, ?_⟩, ?_⟩
      · rw [← Hp.out, hdr.out]
        rfl
      · rw [iter_pos _ _ rfl, iter_pos _ _ rfl]
        omega
    · have hnx := fun ty => next_end (P := Tryd.prog) w1 w1.heap.size rfl T pos ty hlt
      have hacc : acc = Lx.num 0 D := by
        rw [← Hp.out, List.drop_of_length_le (by rw [← hTsz]; omega)]
        rfl
      clear Hp
      obtain ⟨c0, c1, c2, c3, f0, f1, f2, f3, hbw, hsz⟩ := box_tok (HB.out pos)
      by_cases hbig : 1000000000 < acc
      · have hfin : Hid (tokVal a R = .tuple #[.agg #[.int .i64 0, .int .i64 0, .string { data := #[] }, .int .i64 0], .int .i64 (-1)]) := by
          unfold Hid
          rw [← HR.out, ← hacc, if_pos hbig]
          rfl
        clear hacc
        have hbig' : (1000000000 : Int) < acc := by omega
        go_wp2
        refine bodyPost_ret (v := .tuple #[.agg #[.int .i64 0, .int .i64 0, .string { data := #[] }, .int .i64 0], .int .i64 (-1)]) (by simp [results, Tryd.results22, go_sem, c0, c1, c2, c3]) rfl ⟨?_, (((hbw.setCell (Nat.le_refl _) _).setCell (Nat.le_refl _) _).setCell (Nat.le_refl _) _).setCell (Nat.le_refl _) _⟩
        rw [hfin.out]
      · have hfin : Hid (tokVal a R = .tuple #[.agg #[.int .i64 1, .int .i64 a, .string { data := #[] }, .int .i64 acc], .int .i64 (a + (D.length : Nat))]) := by
          unfold Hid
          rw [← HR.out, ← hacc, if_neg hbig]
          rfl
        clear hacc
        have hbig' : ¬ (1000000000 : Int) < acc := by omega
        go_wp2
        refine bodyPost_ret (v := .tuple #[.agg #[.int .i64 1, .int .i64 a, .string { data := #[] }, .int .i64 acc], .int .i64 (a + (D.length : Nat))]) (by simp [results, Tryd.results22, go_sem, c0, c1, c2, c3]) rfl ⟨?_, (((hbw.setCell (Nat.le_refl _) _).setCell (Nat.le_refl _) _).setCell (Nat.le_refl _) _).setCell (Nat.le_refl _) _⟩
        rw [hfin.out]
end Go.Proofs.YtapdhlfgakbebaaDoor
