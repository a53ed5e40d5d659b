/-
  Token of the second reader, at every place of every text: what it answers is what the plain words say; nothing old changes.
-/
import Derived.Test.YtapdhlfgakbebaaDoorR7
import Derived.Test.YtapdhlfgakbebaaDoorR8
import Derived.Test.YtapdhlfgakbebaaDoorR13
import Derived.Test.YtapdhlfgakbebaaDoorR14
namespace Go.Proofs.YtapdhlfgakbebaaDoor
open Go.RowKit
theorem tokenRef_any (s : ByteArray) (a : Int) (w : World) (h0 : 0 ≤ a) (h1 : a < s.size) (hs : s.size ≤ 4000) :
    Calls Tryd.prog 18 #[.string s, .int .i64 a] w fun e w' => TokEnd a e (Lx.tok (s.data.toList.drop a.toNat)) ∧ Below w.heap.size w w' := by
  have hl : a.toNat < s.size := by omega
  have hd := drop_at s a.toNat hl
  have htk := tok_cons (s[a.toNat]'hl) (s.data.toList.drop (a.toNat + 1))
  rw [← hd] at htk
  cases hdig : Lx.isDigit (s[a.toNat]'hl)
  · rw [hdig, if_neg (by simp)] at htk
    by_cases h34 : (s[a.toNat]'hl).toNat = 34
    · rw [if_pos (UInt8.toNat_inj.1 h34)] at htk
      rw [htk]
      exact tokenRef_str s a w h0 h1 hs hl h34
    · rw [if_neg (fun e => h34 (by rw [e]; rfl))] at htk
      have b34 : ((((s[a.toNat]'hl).toNat : Nat) : Int) == 34) = false := by rw [beq_eq_false_iff_ne]; omega
      by_cases h39 : (s[a.toNat]'hl).toNat = 39
      · rw [if_pos (UInt8.toNat_inj.1 h39)] at htk
        rw [htk]
        exact tokenRef_var s a w h0 h1 hs hl h39
      · rw [if_neg (fun e => h39 (by rw [e]; rfl))] at htk
        have b39 : ((((s[a.toNat]'hl).toNat : Nat) : Int) == 39) = false := by rw [beq_eq_false_iff_ne]; omega
        cases hsm : Lx.isSmall (s[a.toNat]'hl)
        · cases hgr : Lx.isGreat (s[a.toNat]'hl)
          · by_cases h95 : (s[a.toNat]'hl).toNat = 95
            · have b95 : ((((s[a.toNat]'hl).toNat : Nat) : Int) == 95) = true := by rw [beq_iff_eq]; omega
              exact tokenRef_under s a w h0 h1 hs hl hdig b34 b39 hsm hgr b95
            · have b95 : ((((s[a.toNat]'hl).toNat : Nat) : Int) == 95) = false := by rw [beq_eq_false_iff_ne]; omega
              rw [hsm, hgr, if_neg (by simp), if_neg (by simp), if_neg (fun e => h95 (by rw [e.1]; rfl))] at htk
              rw [htk]
              exact tokenRef_sign s a w h0 h1 hs hl hdig hsm hgr b34 b39 b95
          · exact tokenRef_great s a w h0 h1 hs hl hdig b34 b39 hsm hgr
        · have hgr : Lx.isGreat (s[a.toNat]'hl) = false := by rw [Bool.eq_false_iff]; intro q; have := (isGreat_iff _).1 q; have := (isSmall_iff _).1 hsm; omega
          exact tokenRef_small s a w h0 h1 hs hl hdig b34 b39 hsm hgr
  · rw [hdig, if_pos rfl] at htk
    rw [htk]
    exact tokenRef_num s a w h0 h1 hs hl hdig
end Go.Proofs.YtapdhlfgakbebaaDoor
