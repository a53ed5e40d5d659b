/-
  The sets of bytes, asked by a mask, are the plain kinds of bytes.
-/
import Derived.Test.YtapdhlfgakbebaaDoorW1
namespace Go.Proofs.YtapdhlfgakbebaaDoor
open Go.RowKit
theorem u8_eq (c : UInt8) (k : Nat) (hk : k < 256) : (c = UInt8.ofNat k) ↔ c.toNat = k := by
  rw [← UInt8.toNat_inj, UInt8.toNat_ofNat_of_lt' (by simpa using hk)]
theorem isBlank_iff (c : UInt8) : Lx.isBlank c = true ↔ c.toNat = 32 ∨ c.toNat = 9 ∨ c.toNat = 10 := by
  have e1 := u8_eq c 32 (by omega); have e2 := u8_eq c 9 (by omega); have e3 := u8_eq c 10 (by omega)
  simp at e1 e2 e3
  simp [Lx.isBlank, e1, e2, e3]
  omega
theorem isDigit_iff (c : UInt8) : Lx.isDigit c = true ↔ 48 ≤ c.toNat ∧ c.toNat ≤ 57 := by
  simp [Lx.isDigit, UInt8.le_iff_toNat_le]
theorem isSmall_iff (c : UInt8) : Lx.isSmall c = true ↔ 97 ≤ c.toNat ∧ c.toNat ≤ 122 := by
  simp [Lx.isSmall, UInt8.le_iff_toNat_le]
theorem isGreat_iff (c : UInt8) : Lx.isGreat c = true ↔ 65 ≤ c.toNat ∧ c.toNat ≤ 90 := by
  simp [Lx.isGreat, UInt8.le_iff_toNat_le]
theorem inName_iff (c : UInt8) : Lx.inName c = true ↔ (48 ≤ c.toNat ∧ c.toNat ≤ 57) ∨ (97 ≤ c.toNat ∧ c.toNat ≤ 122) ∨ (65 ≤ c.toNat ∧ c.toNat ≤ 90) ∨ c.toNat = 95 ∨ c.toNat = 39 := by
  have e1 := u8_eq c 95 (by omega); have e2 := u8_eq c 39 (by omega)
  simp at e1 e2
  simp only [Lx.inName, Bool.or_eq_true, isDigit_iff, isSmall_iff, isGreat_iff, beq_iff_eq, e1, e2]
  omega
theorem inVar_iff (c : UInt8) : Lx.inVar c = true ↔ (48 ≤ c.toNat ∧ c.toNat ≤ 57) ∨ (97 ≤ c.toNat ∧ c.toNat ≤ 122) := by
  simp only [Lx.inVar, Bool.or_eq_true, isDigit_iff, isSmall_iff]
  omega
theorem set_one {b : Bool} {p : Prop} (h : b = true ↔ p) (x : Bool) (hx : x = true ↔ p) : x = b := by
  rw [Bool.eq_iff_iff, h, hx]
theorem setOf_cases (c : Int) : (Lx.setOf c = 1 ∧ (c = 32 ∨ c = 9 ∨ c = 10)) ∨ (Lx.setOf c = 2 ∧ 48 ≤ c ∧ c ≤ 57) ∨ (Lx.setOf c = 4 ∧ 97 ≤ c ∧ c ≤ 122) ∨ (Lx.setOf c = 8 ∧ 65 ≤ c ∧ c ≤ 90) ∨ (Lx.setOf c = 16 ∧ c = 95) ∨ (Lx.setOf c = 32 ∧ c = 39) ∨ (Lx.setOf c = 64 ∧ c = 34) ∨
    (Lx.setOf c = 0 ∧ ¬ (c = 32 ∨ c = 9 ∨ c = 10) ∧ ¬ (48 ≤ c ∧ c ≤ 57) ∧ ¬ (97 ≤ c ∧ c ≤ 122) ∧ ¬ (65 ≤ c ∧ c ≤ 90) ∧ c ≠ 95 ∧ c ≠ 39 ∧ c ≠ 34) := by
  unfold Lx.setOf
  repeat' split
  all_goals simp
  all_goals omega
theorem inS_blank : Lx.inS 1 = Lx.isBlank := by
  funext c
  refine set_one (isBlank_iff c) _ ?_
  rcases setOf_cases c.toNat with ⟨e, h⟩ | ⟨e, h⟩ | ⟨e, h⟩ | ⟨e, h⟩ | ⟨e, h⟩ | ⟨e, h⟩ | ⟨e, h⟩ | ⟨e, h⟩
  all_goals unfold Lx.inS
  all_goals rw [e]
  · rw [show (!(bits .and .i64 1 1 == 0)) = true from by decide]; simp; omega
  · rw [show (!(bits .and .i64 2 1 == 0)) = false from by decide]; simp; omega
  · rw [show (!(bits .and .i64 4 1 == 0)) = false from by decide]; simp; omega
  · rw [show (!(bits .and .i64 8 1 == 0)) = false from by decide]; simp; omega
  · rw [show (!(bits .and .i64 16 1 == 0)) = false from by decide]; simp; omega
  · rw [show (!(bits .and .i64 32 1 == 0)) = false from by decide]; simp; omega
  · rw [show (!(bits .and .i64 64 1 == 0)) = false from by decide]; simp; omega
  · rw [show (!(bits .and .i64 0 1 == 0)) = false from by decide]; simp; omega
theorem inS_digit : Lx.inS 2 = Lx.isDigit := by
  funext c
  refine set_one (isDigit_iff c) _ ?_
  rcases setOf_cases c.toNat with ⟨e, h⟩ | ⟨e, h⟩ | ⟨e, h⟩ | ⟨e, h⟩ | ⟨e, h⟩ | ⟨e, h⟩ | ⟨e, h⟩ | ⟨e, h⟩
  all_goals unfold Lx.inS
  all_goals rw [e]
  · rw [show (!(bits .and .i64 1 2 == 0)) = false from by decide]; simp; omega
  · rw [show (!(bits .and .i64 2 2 == 0)) = true from by decide]; simp; omega
  · rw [show (!(bits .and .i64 4 2 == 0)) = false from by decide]; simp; omega
  · rw [show (!(bits .and .i64 8 2 == 0)) = false from by decide]; simp; omega
  · rw [show (!(bits .and .i64 16 2 == 0)) = false from by decide]; simp; omega
  · rw [show (!(bits .and .i64 32 2 == 0)) = false from by decide]; simp; omega
  · rw [show (!(bits .and .i64 64 2 == 0)) = false from by decide]; simp; omega
  · rw [show (!(bits .and .i64 0 2 == 0)) = false from by decide]; simp; omega
theorem inS_small : Lx.inS 4 = Lx.isSmall := by
  funext c
  refine set_one (isSmall_iff c) _ ?_
  rcases setOf_cases c.toNat with ⟨e, h⟩ | ⟨e, h⟩ | ⟨e, h⟩ | ⟨e, h⟩ | ⟨e, h⟩ | ⟨e, h⟩ | ⟨e, h⟩ | ⟨e, h⟩
  all_goals unfold Lx.inS
  all_goals rw [e]
  · rw [show (!(bits .and .i64 1 4 == 0)) = false from by decide]; simp; omega
  · rw [show (!(bits .and .i64 2 4 == 0)) = false from by decide]; simp; omega
  · rw [show (!(bits .and .i64 4 4 == 0)) = true from by decide]; simp; omega
  · rw [show (!(bits .and .i64 8 4 == 0)) = false from by decide]; simp; omega
  · rw [show (!(bits .and .i64 16 4 == 0)) = false from by decide]; simp; omega
  · rw [show (!(bits .and .i64 32 4 == 0)) = false from by decide]; simp; omega
  · rw [show (!(bits .and .i64 64 4 == 0)) = false from by decide]; simp; omega
  · rw [show (!(bits .and .i64 0 4 == 0)) = false from by decide]; simp; omega
theorem inS_var : Lx.inS 6 = Lx.inVar := by
  funext c
  refine set_one (inVar_iff c) _ ?_
  rcases setOf_cases c.toNat with ⟨e, h⟩ | ⟨e, h⟩ | ⟨e, h⟩ | ⟨e, h⟩ | ⟨e, h⟩ | ⟨e, h⟩ | ⟨e, h⟩ | ⟨e, h⟩
  all_goals unfold Lx.inS
  all_goals rw [e]
  · rw [show (!(bits .and .i64 1 6 == 0)) = false from by decide]; simp; omega
  · rw [show (!(bits .and .i64 2 6 == 0)) = true from by decide]; simp; omega
  · rw [show (!(bits .and .i64 4 6 == 0)) = true from by decide]; simp; omega
  · rw [show (!(bits .and .i64 8 6 == 0)) = false from by decide]; simp; omega
  · rw [show (!(bits .and .i64 16 6 == 0)) = false from by decide]; simp; omega
  · rw [show (!(bits .and .i64 32 6 == 0)) = false from by decide]; simp; omega
  · rw [show (!(bits .and .i64 64 6 == 0)) = false from by decide]; simp; omega
  · rw [show (!(bits .and .i64 0 6 == 0)) = false from by decide]; simp; omega
theorem inS_name : Lx.inS 62 = Lx.inName := by
  funext c
  refine set_one (inName_iff c) _ ?_
  rcases setOf_cases c.toNat with ⟨e, h⟩ | ⟨e, h⟩ | ⟨e, h⟩ | ⟨e, h⟩ | ⟨e, h⟩ | ⟨e, h⟩ | ⟨e, h⟩ | ⟨e, h⟩
  all_goals unfold Lx.inS
  all_goals rw [e]
  · rw [show (!(bits .and .i64 1 62 == 0)) = false from by decide]; simp; omega
  · rw [show (!(bits .and .i64 2 62 == 0)) = true from by decide]; simp; omega
  · rw [show (!(bits .and .i64 4 62 == 0)) = true from by decide]; simp; omega
  · rw [show (!(bits .and .i64 8 62 == 0)) = true from by decide]; simp; omega
  · rw [show (!(bits .and .i64 16 62 == 0)) = true from by decide]; simp; omega
  · rw [show (!(bits .and .i64 32 62 == 0)) = true from by decide]; simp; omega
  · rw [show (!(bits .and .i64 64 62 == 0)) = false from by decide]; simp; omega
  · rw [show (!(bits .and .i64 0 62 == 0)) = false from by decide]; simp; omega
end Go.Proofs.YtapdhlfgakbebaaDoor
