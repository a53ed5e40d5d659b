/-
  The keys of a map in rising order (slices.Sorted of maps.Keys).
-/
import Derived.Test.YtbgpjaniohpfaaaShelf
import Derived.Test.YtbgpjaniohpfaaaK13
import Derived.Lib.SlKeysI
namespace Go.Proofs.Ytbgpjaniohpfaaa
open Go.RowKit Go.Maps Go.Sort Go.Shelf
theorem sortsA (m : Nat) : AnyZI.SortsIn Try.prog Try.sortedA_ren Fence.wide m :=
  ⟨fun blk off cap ss W hH hblk hsz => callsIn_wide.2 (AnyM.slices_Sort_int Try.sortA blk off cap ss W hH hblk hsz),
   fun p cap W => callsIn_wide.2 (AnyM.slices_Sort_int_none Try.sortA p cap W)⟩
theorem keys_any (mb : Option Nat) (W : World) : Calls Try.prog 32 #[.map mb] W fun e w' => e = .returned (.func (.func 44) #[] #[.pointer (some ⟨W.heap.size, 0, none⟩)]) ∧ w' = W.alloc (.cells #[.map mb] 51) :=
  (callsIn_wide (n := 5)).1 (AnyZI.keys_in Try.keysA Fence.wide 5 trivial rfl mb W)
theorem sorted_any {H : Type} (b nn : Nat) (D0 : DataW H) (R : Value → Option (DataW H × List MemPlace)) (w : World) (hown : w.ownsMap Try.prog 3 R b nn D0) (hmax : Maps.size D0 ≤ maxLen) (hbytes : Maps.size D0 * 8 ≤ 140737488355328) :
    Calls Try.prog 31 #[.func (.func 44) #[] #[.pointer (some ⟨w.heap.size, 0, none⟩)]] (w.alloc (.cells #[.map (some b)] 51)) fun e w' => ∃ (v : Value) (ss : List Int), e = .returned v ∧ ss.Perm (intKeys D0) ∧
      w'.ownsRow (w.alloc (.cells #[.map (some b)] 51)).heap.size 3 1 v ss.length ((ss.mergeSort (fun x y => decide (x ≤ y))).map encZ) ∧ (v = .slice none 0 0 ↔ ss = []) ∧ Below (w.alloc (.cells #[.map (some b)] 51)).heap.size (w.alloc (.cells #[.map (some b)] 51)) w' := by
  have hbl := hown.lt
  have hseq : SeqGives Fence.wide 2 Try.prog 44 #[.pointer (some ⟨w.heap.size, 0, none⟩)] encZ (fun ss => ss.Perm (intKeys D0)) (Maps.size D0) (w.alloc (.cells #[.map (some b)] 51)) :=
    AnyZI.keys_gives (ρ := Try.keysA_ren) { Try.keysA with } Fence.wide _ trivial rfl (by omega) w.heap.size b nn D0 _ (by simp) (by simp) (by
      obtain ⟨es, clock, hb, Ft, hs, hD⟩ := hown
      exact ⟨es, clock, (Below.heap_alloc _ _ b hbl).trans hb, Ft, hs, hD⟩)
  have cS := AnyZI.sorted_in Try.sortedA Fence.wide 5 trivial trivial trivial trivial rfl (by omega) (sortsA _) (enters_of Try.func43 (by kernel_rfl) rfl) 44 #[.pointer (some ⟨w.heap.size, 0, none⟩)] trivial (enters_of Try.func44 (by kernel_rfl) rfl) _ _ hmax hbytes _ hseq
  change CallsIn _ _ Try.prog 31 _ _ _ at cS
  exact (callsIn_wide (n := 5)).1 cS
theorem has_wf {w : World} {b n : Nat} {D : DataW Value} (h : w.ownsMap Try.prog 3 heldR b n D) {x : Int} (hx : Maps.has D (.int .i64 x) = true) : (Lit.int .i64 x).wf = true := by
  obtain ⟨es, rfl, hko⟩ := h.keysOf
  rw [Maps.has_eq, List.any_eq_true] at hx
  obtain ⟨p, hp, he⟩ := hx
  obtain ⟨v, hv⟩ := hko p hp
  obtain ⟨y, _, hy, hl⟩ := Maps.keyOf_i64 (by kernel_rfl) hv
  rw [hy] at he
  have : y = x := by
    by_cases e : y = x
    · exact e
    · rw [Maps.sameKey_ne (by simpa using e)] at he
      cases he
  rw [← this]
  exact hl
/-- The keys of a map, in rising order. -/
theorem MapAt.keys {w : World} {b n : Nat} {G : Int → Option Value} {V : List Int} (h : MapAt w b n G) (hV : ∀ x, (G x).isSome = V.contains x) (hnd : V.Nodup) (hwf : ∀ x ∈ V, (Lit.int .i64 x).wf = true) (hn : n * 8 ≤ 140737488355328) :
    Calls Try.prog 31 #[.func (.func 44) #[] #[.pointer (some ⟨w.heap.size, 0, none⟩)]] (w.alloc (.cells #[.map (some b)] 51)) fun e w' => ∃ (v : Value), e = .returned v ∧ w'.ownsRow (w.heap.size + 1) 3 1 v V.length ((V.mergeSort leI).map encZ) ∧ Below (w.heap.size + 1) (w.alloc (.cells #[.map (some b)] 51)) w' := by
  obtain ⟨D, h1, h2, h3⟩ := h
  refine (sorted_any b n D heldR w h1 (by rw [h2]; unfold maxLen; omega) (by rw [h2]; exact hn)).mono ?_
  rintro e w' ⟨v, ss, rfl, hp, hr, _, hb⟩
  have hc : CollectedI D (fun _ => false) V := by
    refine ⟨hnd, fun x => ?_⟩
    by_cases hw : (Lit.int .i64 x).wf = true
    · rw [(h3 x hw).1, hV x]
      simp
    · constructor
      · intro hx; exact absurd (hwf x hx) hw
      · intro hx; exact absurd (has_wf h1 hx.1) hw
  have hp2 : ss.Perm V := hp.trans (hc.perm h1 keyed3 (by kernel_rfl) (fun _ => rfl)).symm
  rw [heap_size_alloc] at hr hb
  refine ⟨v, rfl, ?_, hb⟩
  rw [hp2.length_eq, mergeSort_of_perm_i hp2] at hr
  exact hr
end Go.Proofs.Ytbgpjaniohpfaaa
