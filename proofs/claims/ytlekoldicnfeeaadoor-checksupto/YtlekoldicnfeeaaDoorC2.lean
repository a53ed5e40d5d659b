/-
  The document's layer code: a number's bytes (big, two).
-/
import Derived.Test.YtlekoldicnfeeaaDoorC1
import Derived.Laws.IdiomStrings
namespace Go.Proofs.YtlekoldicnfeeaaDoor
open Go.RowKit Go.Deep
section
set_option maxHeartbeats 4000000
set_option maxRecDepth 100000
/-- A number's bytes, the highest first: so many, ahead of others. -/
def bigR : Nat → Int → List UInt8 → List UInt8
  | 0, _, s => s
  | k + 1, v, s => bigR k (v / 256) (UInt8.ofNat (v % 256).toNat :: s)
def big (v : Int) (n : Nat) : List UInt8 := bigR n v []
theorem bigR_len : ∀ (n : Nat) (v : Int) (s : List UInt8), (bigR n v s).length = n + s.length
  | 0, _, s => by simp [bigR]
  | k + 1, v, s => by
    rw [bigR, bigR_len k]
    simp
    omega
theorem big_len (v : Int) (n : Nat) : (big v n).length = n := by rw [big, bigR_len]; rfl
theorem ba_app (a b : Array UInt8) : ({ data := a } : ByteArray) ++ { data := b } = { data := a ++ b } := by
  apply ByteArray.ext
  simp [ByteArray.data_append]
theorem str_app (a b : List UInt8) : Value.string (({ data := a.toArray } : ByteArray) ++ { data := b.toArray }) = .string { data := (a ++ b).toArray } := by
  rw [ba_app]
  simp
theorem byte_str (w : World) (b : Int) (hb : 0 ≤ b ∧ b < 256) : (convert 42 9 (.slice (some ⟨w.heap.size, 0, none⟩) 1 1)).run Tryd.prog (w.alloc (Obj.cells #[.int .u8 b] 5)) = .ok (.string { data := #[UInt8.ofNat b.toNat] }) (w.alloc (Obj.cells #[.int .u8 b] 5)) := by
  have h := run_convert_bytes_back (P := Tryd.prog) (w.alloc (Obj.cells #[.int .u8 b] 5)) 42 9 5 ⟨w.heap.size, 0, none⟩ 1 [UInt8.ofNat b.toNat] Tryd.underlying42 Tryd.underlying5 Tryd.underlying9 (by
    intro j hj
    have : j = 0 := by simpa using hj
    subst this
    have e : ((UInt8.ofNat b.toNat).toNat : Int) = b := by
      simp
      omega
    simp only [List.getElem_cons_zero, e]
    simp [Addr.add])
  exact h
theorem big_any (v : Int) (n : Nat) (hn : n ≤ 4) (w : World) : Calls Tryd.prog 20 #[.int .i64 v, .int .i64 n] w fun e w' => e = .returned (.string { data := (big v n).toArray }) ∧ Below w.heap.size w w' := by
  go_enter Tryd.func20, Tryd.ntmps20
  go_wp2_with fail
  go_loopg [0, 5, 6] n (fun g vv sv iv wr => ∃ (i : Nat) (u : Int) (s : List UInt8), vv = .int .i64 u ∧ sv = .string { data := s.toArray } ∧ iv = .int .i64 i ∧ i ≤ n ∧ g = n - i ∧ s.length = i ∧ Hid (bigR (n - i) u s = big v n ∧ Below w.heap.size w wr))
  case atStart => exact ⟨0, v, [], rfl, rfl, rfl, by omega, by omega, rfl, rfl, Below.refl _ _⟩
  case round =>
    obtain ⟨i, u, s, rfl, rfl, rfl, hi1, rfl, hsl, HR⟩ := hrel
    by_cases hi : i < n
    · have hi' : (i : Int) < n := by omega
      have hcv := byte_str wr (u % 256) (by omega)
      have hr := HR.out
      rw [show n - i = (n - (i + 1)) + 1 from by omega] at hr
      have hb := hr.2.alloc hr.2.size (Obj.cells #[.int .u8 (u % 256)] 5)
      have Q : Hid (bigR (n - (i + 1)) (u / 256) (UInt8.ofNat (u % 256).toNat :: s) = big v n ∧ Below w.heap.size w (wr.alloc (Obj.cells #[.int .u8 (u % 256)] 5))) := ⟨hr.1, hb⟩
      clear HR hr hb
      go_wp2
      go_roundg (n - (i + 1))
      case measure => omega
      case rel => exact ⟨i + 1, u / 256, UInt8.ofNat (u % 256).toNat :: s, rfl, str_app [UInt8.ofNat (u % 256).toNat] s, by first | rfl | (congr 1; omega) | go_num, by omega, rfl, by simp; omega, Q⟩
    · have hi' : ¬ (i : Int) < n := by omega
      have hr := HR.out
      rw [show n - i = 0 from by omega] at hr
      go_wp2
      go_ret
      exact ⟨by rw [← hr.1]; rfl, hr.2⟩
def isTwo (v : Int) : Bool := decide (0 ≤ v) && decide (v ≤ 65535)
theorem two_any (v : Int) (w : World) : Calls Tryd.prog 19 #[.int .i64 v] w fun e w' => e = .returned (.tuple #[.string { data := (big v 2).toArray }, .bool (isTwo v)]) ∧ Below w.heap.size w w' := by
  have hc := big_any v 2 (by omega) w
  have Hc : Hid _ := hc
  clear hc
  by_cases h1 : 0 ≤ v
  · by_cases h2 : v ≤ 65535
    · rw [show isTwo v = true by unfold isTwo; rw [decide_eq_true h1, decide_eq_true h2]; rfl]
      go_enter Tryd.func19, Tryd.ntmps19
      go_wp2_with fail
      refine Calls.mono Hc.out ?_
      rintro e w1 ⟨rfl, hb⟩
      go_wp2
      exact bodyPost_ret (v := .tuple #[.string { data := (big v 2).toArray }, .bool true]) (by simp [results, Tryd.results19, go_sem]) rfl ⟨rfl, hb⟩
    · rw [show isTwo v = false by unfold isTwo; rw [decide_eq_true h1, decide_eq_false h2]; rfl]
      go_enter Tryd.func19, Tryd.ntmps19
      go_wp2_with fail
      refine Calls.mono Hc.out ?_
      rintro e w1 ⟨rfl, hb⟩
      go_wp2
      exact bodyPost_ret (v := .tuple #[.string { data := (big v 2).toArray }, .bool false]) (by simp [results, Tryd.results19, go_sem]; omega) rfl ⟨rfl, hb⟩
  · rw [show isTwo v = false by unfold isTwo; rw [decide_eq_false h1]; rfl]
    go_enter Tryd.func19, Tryd.ntmps19
    go_wp2_with fail
    refine Calls.mono Hc.out ?_
    rintro e w1 ⟨rfl, hb⟩
    go_wp2
    exact bodyPost_ret (v := .tuple #[.string { data := (big v 2).toArray }, .bool false]) (by simp [results, Tryd.results19, go_sem]) rfl ⟨rfl, hb⟩
end
end Go.Proofs.YtlekoldicnfeeaaDoor
