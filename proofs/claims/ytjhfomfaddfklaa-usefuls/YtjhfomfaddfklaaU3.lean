/-
  The document's layer matches: do two patterns ask for the same first (alike)?
-/
import Derived.Test.YtjhfomfaddfklaaU2
import Derived.Lib.Strings
namespace Go.Proofs.Ytjhfomfaddfklaa
open Go.RowKit Go.Deep
/-- Do two patterns ask for the same first? -/
def alikeP (a b : Pt) : Bool := decide (a.k = b.k) && (decide (a.kids.length = b.kids.length) && (if a.k = 5 then true else if a.k = 4 then decide (a.s = b.s) && decide (a.n = b.n) else decide (a.n = b.n)))
def alikeC (a b : PC) : Bool := decide (a.k = b.k) && (decide (a.len = b.len) && (if a.k = 5 then true else if a.k = 4 then decide (a.s = b.s) && decide (a.n = b.n) else decide (a.n = b.n)))
theorem alike_eq {wb : World} {a b : PC} {A B : Pt} (hA : PtIn wb a A) (hB : PtIn wb b B) : alikeC a b = alikeP A B := by
  obtain ⟨h1, h2, h3, h4, h5, _, _⟩ := hA.parts
  obtain ⟨k1, k2, k3, k4, k5, _, _⟩ := hB.parts
  unfold alikeC alikeP
  rw [h1, h2, h4, h5, k1, k2, k4, k5]
theorem beq_dec (a b : Int) : (a == b) = decide (a = b) := by by_cases h : a = b <;> simp [h]
theorem bytes_ext {a b : ByteArray} (h : a.data.toList = b.data.toList) : a = b := by
  obtain ⟨x⟩ := a
  obtain ⟨y⟩ := b
  congr
  exact Array.ext' h
section
set_option maxHeartbeats 4000000
set_option maxRecDepth 100000
theorem alikeC_any (a b : PC) (w : World) : Calls Try.prog 46 #[a.val, b.val] w fun e w' => e = .returned (.bool (alikeC a b)) ∧ Below w.heap.size w w' := by
  obtain ⟨ak, an, ao, aa, as_, ap, al, ac⟩ := a
  obtain ⟨bk, bn, bo, ba, bs, bp, bl, bc⟩ := b
  simp only [PC.val, alikeC]
  have Q := below2 w (PC.obj ⟨ak, an, ao, aa, as_, ap, al, ac⟩) (PC.obj ⟨bk, bn, bo, ba, bs, bp, bl, bc⟩)
  have HQ : Hid _ := Q
  clear Q
  by_cases h1 : ak = bk
  · by_cases h2 : al = bl
    · subst h1
      subst h2
      by_cases h5 : ak = 5
      · have h5' : (ak == 5) = true := by simpa using h5
        have R : (decide (ak = ak) && (decide (al = al) && (if ak = 5 then true else if ak = 4 then decide (as_ = bs) && decide (an = bn) else decide (an = bn)))) = true := by simp [h5]
        rw [R]
        clear R h5
        go_enter Try.func46, Try.ntmps46
        go_wp2
        go_ret
        exact ⟨rfl, HQ.out⟩
      · have h5' : (ak == 5) = false := by simpa using h5
        by_cases h4 : ak = 4
        · have h4' : (ak == 4) = true := by simpa using h4
          have R : (decide (ak = ak) && (decide (al = al) && (if ak = 5 then true else if ak = 4 then decide (as_ = bs) && decide (an = bn) else decide (an = bn)))) = (decide (as_ = bs) && decide (an = bn)) := by simp [h4]
          rw [R]
          clear R h5 h4
          by_cases hs : as_ = bs
          · subst hs
            have R2 : (decide (as_ = as_) && decide (an = bn)) = (an == bn) := by rw [beq_dec]; simp
            rw [R2]
            clear R2
            go_enter Try.func46, Try.ntmps46
            go_wp2
            go_ret
            exact ⟨rfl, HQ.out⟩
          · have hs' : (as_.toList == bs.toList) = false := by rw [Lib.toList_data, Lib.toList_data, beq_eq_false_iff_ne]; exact fun h => hs (bytes_ext h)
            have R2 : (decide (as_ = bs) && decide (an = bn)) = false := by simp [hs]
            rw [R2]
            clear R2
            go_enter Try.func46, Try.ntmps46
            go_wp2
            go_ret
            exact ⟨rfl, HQ.out⟩
        · have h4' : (ak == 4) = false := by simpa using h4
          have R : (decide (ak = ak) && (decide (al = al) && (if ak = 5 then true else if ak = 4 then decide (as_ = bs) && decide (an = bn) else decide (an = bn)))) = (an == bn) := by rw [beq_dec]; simp [h5, h4]
          rw [R]
          clear R h5 h4
          go_enter Try.func46, Try.ntmps46
          go_wp2
          go_ret
          exact ⟨rfl, HQ.out⟩
    · subst h1
      have h2' : ((al : Int) != (bl : Int)) = true := by simp; omega
      have R : (decide (ak = ak) && (decide (al = bl) && (if ak = 5 then true else if ak = 4 then decide (as_ = bs) && decide (an = bn) else decide (an = bn)))) = false := by simp [h2]
      rw [R]
      clear R h2
      go_enter Try.func46, Try.ntmps46
      go_wp2
      go_ret
      exact ⟨rfl, HQ.out⟩
  · have h1' : (ak != bk) = true := by simpa using h1
    have R : (decide (ak = bk) && (decide (al = bl) && (if ak = 5 then true else if ak = 4 then decide (as_ = bs) && decide (an = bn) else decide (an = bn)))) = false := by simp [h1]
    rw [R]
    clear R h1
    go_enter Try.func46, Try.ntmps46
    go_wp2
    go_ret
    exact ⟨rfl, HQ.out⟩
end
end Go.Proofs.Ytjhfomfaddfklaa
