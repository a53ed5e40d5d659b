/-
  The document's own solver: nothing stands for anything (NewSub).
-/
import Derived.Test.YtbgpjaniohpfaaaR7
import Derived.Test.YtbgpjaniohpfaaaS3
namespace Go.Proofs.Ytbgpjaniohpfaaa
open Go.RowKit Go.Deep
theorem freeR_none (V : List Int) : free (fun _ => none) V = V.length := by
  unfold free
  simp
inductive NewPost (wb : World) (V : List Int) (w : World) (e' : Ending) (w' : World) : Prop
  | mk (sp bM bQ : Nat) (he : e' = .returned (.pointer (some ⟨sp, 0, none⟩))) (hS : Rq wb w' sp bM bQ 0 0 (fun _ => none) Ty.vr (fun _ => 0) V) (hl : w.heap.size ≤ sp ∧ w.heap.size ≤ bM ∧ w.heap.size ≤ bQ) (hb : Below w.heap.size w w') : NewPost wb V w e' w'
set_option maxHeartbeats 2000000 in
set_option maxRecDepth 100000 in
theorem newR_any (wb w : World) (V : List Int) (hb : Below wb.heap.size wb w) (hV : V.Nodup) (hn : V.length < maxLen) :
    Calls Try.prog 21 #[] w fun e' w' => NewPost wb V w e' w' := by
  have hmm := @run_makeMap Try.prog
  have hz := hb.size
  have Hb : Hid (Below wb.heap.size wb w) := hb
  have HV : Hid (V.Nodup ∧ V.length < maxLen) := ⟨hV, hn⟩
  clear hb hV hn
  go_enter Try.func21, Try.ntmps21
  go_wp2
  go_ret
  have hbw : Below w.heap.size w (((w.alloc (.map #[] 0)).alloc (.map #[] 0)).alloc (Obj.cells #[.map (some w.heap.size), .map (some (w.heap.size + 1))] 73)) := (((Below.refl _ _).alloc (Nat.le_refl _) _).alloc (by simp) _).alloc (by simp; omega) _
  have hM : MapAt (((w.alloc (.map #[] 0)).alloc (.map #[] 0)).alloc (Obj.cells #[.map (some w.heap.size), .map (some (w.heap.size + 1))] 73)) w.heap.size 0 (fun _ => none) := ((MapAt.made w).kp (X := []) (Kp.alloc _ _ _) (by simp)).kp (X := []) (Kp.alloc _ _ _) (by simp)
  have hQ : MapAt (((w.alloc (.map #[] 0)).alloc (.map #[] 0)).alloc (Obj.cells #[.map (some w.heap.size), .map (some (w.heap.size + 1))] 73)) (w.heap.size + 1) 0 (fun _ => none) := by
    have h := (MapAt.made (w.alloc (.map #[] 0))).kp (X := []) (Kp.alloc _ _ (Obj.cells #[.map (some w.heap.size), .map (some (w.heap.size + 1))] 73)) (by simp)
    rw [heap_size_alloc] at h
    exact h
  have hh := (MapKept.heap_alloc ((w.alloc (.map #[] 0)).alloc (.map #[] 0)) (Obj.cells #[.map (some w.heap.size), .map (some (w.heap.size + 1))] 73)).1
  rw [heap_size_alloc, heap_size_alloc] at hh
  refine NewPost.mk (w.heap.size + 1 + 1) w.heap.size (w.heap.size + 1) rfl ⟨⟨Hb.out.trans (hbw.mono hz), ?_, ⟨⟨_, hM, fun x => .inl ⟨rfl, rfl⟩⟩, [], Nat.le_refl _, fun x hx => by cases hx⟩, Agr.none, ⟨by omega, by omega⟩, by decide⟩, ?_, ⟨_, fun _ => none, hQ, fun _ => rfl, ⟨by rw [freeR_none]; omega, HV.out.1, HV.out.2⟩, fun x => .inl ⟨rfl, rfl⟩⟩, ⟨by omega, by omega, by omega⟩⟩ ⟨by omega, by omega, by omega⟩ hbw
  · simp only [World.cell?, hh]
    rfl
  · simp only [World.cell?, hh]
    rfl
end Go.Proofs.Ytbgpjaniohpfaaa
