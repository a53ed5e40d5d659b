/-
  Small laws on bytes and lists that the walks of the lexer's texts use.
-/
import Derived.Test.YtapdhlfgakbebaaDoorPlain
import Derived.WalkKit
import Derived.WalkSpells
import Derived.WalkLawsBesides
import Derived.Lib.Strings
import Derived.Lib.IndexBytes
namespace Go.Proofs.YtapdhlfgakbebaaDoor
open Go.RowKit
theorem ret_int {k : IntKind} {a b : Int} (h : a = b) : Ending.returned (.int k a) = .returned (.int k b) := by rw [h]
theorem ret_bool {a b : Bool} (h : a = b) : Ending.returned (.bool a) = .returned (.bool b) := by rw [h]
theorem drop_at (s : ByteArray) (i : Nat) (h : i < s.size) : s.data.toList.drop i = s[i] :: s.data.toList.drop (i + 1) := by
  rw [List.drop_eq_getElem_cons (by simpa [← Lib.size_eq] using h)]; rfl
theorem drop_end (s : ByteArray) (i : Nat) (h : s.size ≤ i) : s.data.toList.drop i = [] := List.drop_of_length_le (by rw [← Lib.size_eq]; exact h)
theorem prefix_take (p s : List UInt8) (h : p.length ≤ s.length) : (s.take p.length == p) = p.isPrefixOf s := by
  induction p generalizing s with
  | nil => simp
  | cons a p ih =>
    cases s with
    | nil => simp at h
    | cons b s =>
      have hi := ih s (by simpa using h)
      have e : (b :: List.take p.length s == a :: p) = ((b == a) && (List.take p.length s == p)) := rfl
      simp only [List.length_cons, List.take_succ_cons, List.isPrefixOf, ← hi, e]
      rw [show (b == a) = (a == b) from by rw [Bool.eq_iff_iff, beq_iff_eq, beq_iff_eq]; exact eq_comm]
theorem prefix_short (p s : List UInt8) (h : ¬ p.length ≤ s.length) : p.isPrefixOf s = false := by
  rw [Bool.eq_false_iff]
  intro e
  exact h (List.isPrefixOf_iff_prefix.1 e).length_le
/-- The length of a front in which all is as asked: one byte more. -/
theorem front_step {p : UInt8 → Bool} {T : List UInt8} {k : Nat} {c : UInt8} {r : List UInt8} (hT : T.drop k = c :: r) (hr : T.drop (k + 1) = r) (h : (T.takeWhile p).length = k + ((T.drop k).takeWhile p).length) (hc : p c = true) :
    (T.takeWhile p).length = k + 1 + ((T.drop (k + 1)).takeWhile p).length := by
  rw [hT] at h
  rw [hr, h]
  simp [hc]
  omega
theorem front_stop {p : UInt8 → Bool} {T : List UInt8} {k : Nat} {c : UInt8} {r : List UInt8} (hT : T.drop k = c :: r) (h : (T.takeWhile p).length = k + ((T.drop k).takeWhile p).length) (hc : p c = false) : (T.takeWhile p).length = k := by
  rw [hT] at h
  simpa [hc] using h
theorem next_ascii {P : Program} (W : World) (k : Nat) (hk : W.heap.size = k) (s : ByteArray) (pos : Nat) (ty : TypeId) (h : pos < s.size) (ha : (s[pos]'h).toNat < 128) :
    (Instr.next (.pointer (some ⟨k, 0, none⟩)) true ty).run P (W.iter s pos) = .ok (.tuple #[.bool true, .int .i64 pos, .int .i32 (s[pos]'h).toNat]) (W.iter s (pos + 1)) := by
  subst hk; exact run_next_ascii W s pos ty h ha
theorem next_any {P : Program} (W : World) (k : Nat) (hk : W.heap.size = k) (s : ByteArray) (pos : Nat) (ty : TypeId) (h : pos < s.size) :
    (Instr.next (.pointer (some ⟨k, 0, none⟩)) true ty).run P (W.iter s pos) = .ok (.tuple #[.bool true, .int .i64 pos, .int .i32 (Utf8.decode s pos).1]) (W.iter s (pos + (Utf8.decode s pos).2)) := by
  subst hk; exact run_next_any W s pos ty h
theorem next_end {P : Program} (W : World) (k : Nat) (hk : W.heap.size = k) (s : ByteArray) (pos : Nat) (ty : TypeId) (h : ¬ pos < s.size) :
    (Instr.next (.pointer (some ⟨k, 0, none⟩)) true ty).run P (W.iter s pos) = .ok (.tuple #[.bool false]) (W.iter s pos) := by
  subst hk; exact run_next_end W s pos ty h
theorem iter_pos (W : World) (k : Nat) (hk : W.heap.size = k) (s : ByteArray) (pos : Nat) : (W.iter s pos).iterPos k = pos := by subst hk; simp
end Go.Proofs.YtapdhlfgakbebaaDoor
