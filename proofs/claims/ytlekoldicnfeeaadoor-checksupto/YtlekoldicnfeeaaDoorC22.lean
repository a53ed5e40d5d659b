/-
  The law's example (small).
-/
import Derived.Test.YtlekoldicnfeeaaDoorC4
import Derived.Test.YtlekoldicnfeeaaDoorC20
namespace Go.Proofs.YtlekoldicnfeeaaDoor
open Go.RowKit Go.Deep
def smallCd : Cd := ⟨[{ data := #[104, 105] }], [⟨0, 1, [⟨0, -2, 0⟩, ⟨17, 0, 0⟩]⟩]⟩
theorem small_enc : smallCd.enc = ([77, 76, 49, 0, 1, 2, 104, 105, 0, 1, 0, 0, 0, 1, 0, 2, 0, 255, 255, 255, 254, 17], 0) := by decide +kernel
inductive SmallPost (w : World) (e : Ending) (w' : World) : Prop
  | mk (p : Option Addr) (cap : Nat) (p' : Option Addr) (cap' : Nat) (he : e = .returned (.agg #[.slice p smallCd.texts.length cap, .slice p' smallCd.funs.length cap'])) (hT : TextsIn w' p smallCd.texts) (hF : FunsIn w' p' smallCd.funs) (hb : Below w.heap.size w w') : SmallPost w e w'
theorem four_blocks (w : World) (a b c d : Obj) : ((((w.alloc a).alloc b).alloc c).alloc d).heap[w.heap.size + 1]? = some b ∧ ((((w.alloc a).alloc b).alloc c).alloc d).heap[w.heap.size + 2]? = some c ∧ ((((w.alloc a).alloc b).alloc c).alloc d).heap[w.heap.size + 3]? = some d ∧ Below w.heap.size w ((((w.alloc a).alloc b).alloc c).alloc d) := by
  have hk : ∀ (w : World) (o : Obj), (w.alloc o).heap[w.heap.size]? = some o := fun w o => (MapKept.heap_alloc w o).1
  have hb : ∀ (w : World) (o : Obj) k, k < w.heap.size → (w.alloc o).heap[k]? = w.heap[k]? := fun w o k hk => Below.heap_alloc _ _ _ hk
  have h1 := hk (w.alloc a) b
  have h2 := hk ((w.alloc a).alloc b) c
  have h3 := hk (((w.alloc a).alloc b).alloc c) d
  have e1 : (w.alloc a).heap.size = w.heap.size + 1 := by simp
  have e2 : ((w.alloc a).alloc b).heap.size = w.heap.size + 2 := by simp
  have e3 : (((w.alloc a).alloc b).alloc c).heap.size = w.heap.size + 3 := by simp
  rw [e1] at h1
  rw [e2] at h2
  rw [e3] at h3
  refine ⟨?_, ?_, h3, ((((Below.refl _ _).alloc (Nat.le_refl _) a).alloc (by simp) b).alloc (by simp; omega) c).alloc (by simp; omega) d⟩
  · rw [hb _ _ _ (by omega), hb _ _ _ (by omega), h1]
  · rw [hb _ _ _ (by omega), h2]
section
set_option maxHeartbeats 4000000
set_option maxRecDepth 100000
theorem small_any (w : World) : Calls Tryd.prog 8 #[] w fun e w' => SmallPost w e w' := by
  go_enter Tryd.func8, Tryd.ntmps8
  go_wp2
  refine bodyPost_ret (v := .agg #[.slice (some ⟨w.heap.size + 1, 0, none⟩) 1 1, .slice (some ⟨w.heap.size + 1 + 1 + 1, 0, none⟩) 1 1]) (by simp [results, Tryd.results8, go_sem]) rfl ?_
  obtain ⟨b1, b2, b3, bb⟩ := four_blocks w (Obj.cells #[Value.slice (some { block := w.heap.size + 1, off := 0 }) 1 1, Value.slice (some { block := w.heap.size + 1 + 1 + 1, off := 0 }) 1 1] 25) (Obj.cells #[Value.string { data := #[104, 105] }] 9) (Obj.cells #[Value.int IntKind.i64 0, Value.int IntKind.i64 (-2), Value.int IntKind.i64 0, Value.int IntKind.i64 17, Value.int IntKind.i64 0, Value.int IntKind.i64 0] 47) (Obj.cells #[Value.int IntKind.i64 0, Value.int IntKind.i64 1, Value.slice (some { block := w.heap.size + 1 + 1, off := 0 }) 2 2] 50)
  have l1 := (Array.getElem?_eq_some_iff.1 b1).1
  have l2 := (Array.getElem?_eq_some_iff.1 b2).1
  have l3 := (Array.getElem?_eq_some_iff.1 b3).1
  refine SmallPost.mk (some ⟨w.heap.size + 1, 0, none⟩) 1 (some ⟨w.heap.size + 1 + 1 + 1, 0, none⟩) 1 rfl ⟨by simp [smallCd], fun i hi => ?_⟩ ⟨by simp [smallCd], fun i hi => ?_⟩ bb
  · obtain rfl : i = 0 := by simp [smallCd] at hi; exact hi
    exact ⟨_, _, rfl, l1, by simp only [World.cell?, b1]; rfl⟩
  · obtain rfl : i = 0 := by simp [smallCd] at hi; exact hi
    refine ⟨_, _, some ⟨w.heap.size + 1 + 1, 0, none⟩, 2, rfl, l3, ⟨by simp only [World.cell?, b3]; rfl, by simp only [World.cell?, b3]; rfl, by simp only [World.cell?, b3]; rfl⟩, ⟨by simp [smallCd], fun j hj => ?_⟩⟩
    obtain rfl | rfl : j = 0 ∨ j = 1 := by simp [smallCd] at hj; omega
    · exact ⟨_, _, rfl, l2, by simp only [World.cell?, b2]; rfl, by simp only [World.cell?, b2]; rfl, by simp only [World.cell?, b2]; rfl⟩
    · exact ⟨_, _, rfl, l2, by simp only [World.cell?, b2]; rfl, by simp only [World.cell?, b2]; rfl, by simp only [World.cell?, b2]; rfl⟩
end
end Go.Proofs.YtlekoldicnfeeaaDoor
