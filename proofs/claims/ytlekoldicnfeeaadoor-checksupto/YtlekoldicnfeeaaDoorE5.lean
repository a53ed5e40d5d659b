/-
  The program's writer: what it has in memory; bytes behind those that it has (text, one, two).
-/
import Derived.Test.YtlekoldicnfeeaaDoorE4
namespace Go.Proofs.YtlekoldicnfeeaaDoor
open Go.RowKit Go.Deep
/-- All that is not the writer's is as it was: what lies below B; and what is no row of bytes, but for its own cell. -/
structure FW (B wp : Nat) (w w' : World) : Prop where
  os : w'.os = w.os
  tape : w'.tape = w.tape
  output : w'.output = w.output
  size : w.heap.size ≤ w'.heap.size
  block : ∀ k, k < w.heap.size → (k < B ∨ (k ≠ wp ∧ ∀ cs fr, w.heap[k]? ≠ some (.cells cs 5 fr))) → w'.heap[k]? = w.heap[k]?
theorem FW.refl (B wp : Nat) (w : World) : FW B wp w w := ⟨rfl, rfl, rfl, Nat.le_refl _, fun _ _ _ => rfl⟩
theorem FW.trans {B wp : Nat} {a b c : World} (h : FW B wp a b) (k : FW B wp b c) : FW B wp a c :=
  ⟨k.os.trans h.os, k.tape.trans h.tape, k.output.trans h.output, Nat.le_trans h.size k.size, fun i hi hx => by
    have e := h.block i hi hx
    exact (k.block i (Nat.lt_of_lt_of_le hi h.size) (by rw [e]; exact hx)).trans e⟩
theorem FW.alloc {B wp : Nat} {a w : World} (h : FW B wp a w) (o : Obj) : FW B wp a (w.alloc o) :=
  ⟨h.os, h.tape, h.output, Nat.le_trans h.size (by simp), fun i hi hx => (Below.heap_alloc _ _ _ (Nat.lt_of_lt_of_le hi h.size)).trans (h.block i hi hx)⟩
theorem FW.below {B wp : Nat} {w w' : World} (h : FW B wp w w') (hB : B ≤ w.heap.size) : Below B w w' :=
  ⟨h.os, h.tape, h.output, h.size, fun k hk => h.block k (Nat.lt_of_lt_of_le hk hB) (.inl hk)⟩
/-- A block that is no row of bytes. -/
theorem FW.box {B wp : Nat} {w w' : World} (h : FW B wp w w') {k : Nat} {cs : Array Value} {t : TypeId} {fr : Nat × Nat} (hb : w.heap[k]? = some (.cells cs t fr)) (ht : t ≠ 5) (hk : k ≠ wp) : w'.heap[k]? = some (.cells cs t fr) := by
  have hlt := (Array.getElem?_eq_some_iff.1 hb).1
  refine (h.block k hlt (.inr ⟨hk, fun cs' fr' e => ?_⟩)).trans hb
  rw [hb] at e
  simp only [Option.some.injEq, Obj.cells.injEq] at e
  exact ht e.2.1
/-- The writer, and the bytes that it has. -/
structure Wr (B wp : Nat) (w : World) (l : List UInt8) : Prop where
  is : ∃ v, w.heap[wp]? = some (.cells #[v] 44) ∧ w.ownsRow B 5 1 v l.length (byteCells l)
  le : B ≤ w.heap.size
theorem own_of_block {w w' : World} {B : Nat} {v : Value} {n : Nat} {xs : List Value} (h : w.ownsRow B 5 1 v n xs) (hk : ∀ g cs, v.ownBlock = some g → w.heap[g]? = some (.cells cs 5 (0, 0)) → w'.heap[g]? = w.heap[g]?) : w'.ownsRow B 5 1 v n xs := by
  refine ⟨h.1, ?_⟩
  rcases h.2 with h0 | ⟨g, cap, cur, rfl, h1, h2, h3⟩
  · exact .inl h0
  · exact .inr ⟨g, cap, cur, rfl, h1, (hk g cur rfl h2).trans h2, h3⟩
theorem own_is {w : World} {B : Nat} {v : Value} {n : Nat} {xs : List Value} (h : w.ownsRow B 5 1 v n xs) {g : Nat} (hg : v.ownBlock = some g) : B ≤ g ∧ ∃ cs, w.heap[g]? = some (.cells cs 5 (0, 0)) := by
  rcases h.2 with ⟨rfl, _⟩ | ⟨g', cap, cur, rfl, h1, h2, _⟩
  · cases hg
  · obtain rfl : g' = g := by simpa [Value.ownBlock] using hg
    exact ⟨h1, cur, h2⟩
theorem Wr.alloc {B wp : Nat} {w : World} {l : List UInt8} (h : Wr B wp w l) (o : Obj) : Wr B wp (w.alloc o) l := by
  obtain ⟨⟨v, h1, h2⟩, h3⟩ := h
  refine ⟨⟨v, (Below.heap_alloc _ _ _ (Array.getElem?_eq_some_iff.1 h1).1).trans h1, ?_⟩, by simp; omega⟩
  exact own_of_block h2 fun g cs _ hg => Below.heap_alloc _ _ _ (Array.getElem?_eq_some_iff.1 hg).1
/-- A new row put into the writer's cell. -/
theorem wr_put {B wp : Nat} {w w1 : World} {v v' : Value} {n n' : Nat} {xs : List Value} {l' : List UInt8} (h1 : w.heap[wp]? = some (.cells #[v] 44)) (h2 : w.ownsRow B 5 1 v n xs) (hB : B ≤ w.heap.size) (hwp : B ≤ wp)
    (k1 : w1.ownsRow B 5 1 v' n' (byteCells l')) (hn : n' = l'.length) (kg : w.grownBy w1 v.ownBlock) : Wr B wp (w1.setCell ⟨wp, 0, none⟩ v') l' ∧ FW B wp w (w1.setCell ⟨wp, 0, none⟩ v') := by
  subst hn
  have hne : ∀ g, v.ownBlock = some g → g ≠ wp := by
    intro g hg e
    obtain ⟨_, cs, hc⟩ := own_is h2 hg
    rw [e, h1] at hc
    simp at hc
  have hlt := (Array.getElem?_eq_some_iff.1 h1).1
  have w1p : w1.heap[wp]? = some (.cells #[v] 44) := (kg.block wp hlt (fun e => hne wp e.symm rfl)).trans h1
  constructor
  · refine ⟨⟨v', ?_, ?_⟩, ?_⟩
    · simp [World.setCell, Array.getElem?_modify, w1p]
    · refine own_of_block k1 fun g cs _ hg => ?_
      refine Below.heap_setCell _ _ _ _ ?_
      intro e
      subst e
      rw [w1p] at hg
      simp at hg
    · simp [World.setCell]
      exact Nat.le_trans hB kg.size
  · refine ⟨kg.os, kg.tape, kg.output, by simp [World.setCell]; exact kg.size, fun k hk hx => ?_⟩
    have hkwp : k ≠ wp := by
      rcases hx with h | h
      · omega
      · exact h.1
    refine (Below.heap_setCell _ _ _ _ hkwp).trans (kg.block k hk ?_)
    intro e
    obtain ⟨hg1, cs, hc⟩ := own_is h2 e.symm
    rcases hx with h | h
    · omega
    · exact h.2 _ _ hc
theorem own_slice {w : World} {B : Nat} {v : Value} {n : Nat} {xs : List Value} (h : w.ownsRow B 5 1 v n xs) : ∃ p m c, v = .slice p m c := by
  rcases h.2 with ⟨rfl, _⟩ | ⟨g', cap, cur, rfl, _⟩
  · exact ⟨_, _, _, rfl⟩
  · exact ⟨_, _, _, rfl⟩
theorem wr_kept {B wp : Nat} {w w1 : World} {v : Value} {n : Nat} {xs : List Value} (h1 : w.heap[wp]? = some (.cells #[v] 44)) (h2 : w.ownsRow B 5 1 v n xs) (kg : w.grownBy w1 v.ownBlock) : w1.cell? ⟨wp, 0, none⟩ = some v ∧ w1.frozen? ⟨wp, 0, none⟩ = false ∧ wp < w1.heap.size := by
  have hlt := (Array.getElem?_eq_some_iff.1 h1).1
  have e : w1.heap[wp]? = some (.cells #[v] 44) := (kg.block wp hlt (fun e => by
    obtain ⟨_, cs, hc⟩ := own_is h2 e.symm
    rw [h1] at hc
    simp at hc)).trans h1
  refine ⟨?_, ?_, Nat.lt_of_lt_of_le hlt kg.size⟩ <;> simp [World.cell?, World.frozen?, e]
theorem big2 (v : Int) : big v 2 = [UInt8.ofNat (v / 256 % 256).toNat, UInt8.ofNat (v % 256).toNat] := rfl
theorem big1 (v : Int) : big v 1 = [UInt8.ofNat (v % 256).toNat] := rfl
theorem u8cell (v : Int) (h : 0 ≤ v) (h2 : v < 256) : ((UInt8.ofNat v.toNat).toNat : Int) = v := by
  simp
  omega
theorem cells2 (v : Int) : byteCells (big v 2) = [.int .u8 (v / 256 % 256), .int .u8 (v % 256)] := by
  rw [big2]
  simp only [byteCells, List.map_cons, List.map_nil]
  rw [u8cell _ (by omega) (by omega), u8cell _ (by omega) (by omega)]
theorem cells1 (v : Int) : byteCells (big v 1) = [.int .u8 (v % 256)] := by
  rw [big1]
  simp only [byteCells, List.map_cons, List.map_nil]
  rw [u8cell _ (by omega) (by omega)]
section
set_option maxHeartbeats 8000000
set_option maxRecDepth 100000
theorem wtext_any (B wp : Nat) (w : World) (l : List UInt8) (s : ByteArray) (h : Wr B wp w l) (hwp : B ≤ wp) (hl : l.length + s.size ≤ 1000000000) :
    Calls Tryd.prog 30 #[.pointer (some ⟨wp, 0, none⟩), .string s] w fun e w' => e = .returned (.tuple #[]) ∧ Wr B wp w' (l ++ s.data.toList) ∧ FW B wp w w' := by
  obtain ⟨⟨v, h1, h2⟩, hB⟩ := h
  have c0 : w.cell? ⟨wp, 0, none⟩ = some v := by simp [World.cell?, h1]
  have hlt := (Array.getElem?_eq_some_iff.1 h1).1
  obtain ⟨i0, hi0, hz0, hz1, hz2⟩ := info_parts infos5
  go_enter Tryd.func30, Tryd.ntmps30
  go_wp2_with (at_builtin; refine Lib.wpList_append_own_string _ rfl _ _ 42 9 rfl B 5 i0 Tryd.underlying42 Tryd.underlying9 hi0 hz0 hz1 hz2 _ _ _ rfl h2 s rfl (by unfold maxLen; omega) (by omega) hB ?_)
  intro v' w1 k1 kg _
  have Q : Hid _ := wr_put (l' := l ++ s.data.toList) h1 h2 hB hwp (by rw [byteCells_app]; exact k1) (by rw [List.length_append, Array.length_toList]; rfl) kg
  obtain ⟨d0, d1, d2⟩ := wr_kept h1 h2 kg
  obtain ⟨p, m, c, rfl⟩ := own_slice k1
  clear k1 kg c0
  go_wp2
  go_end0
  exact ⟨rfl, Q.out⟩
theorem wone_any (B wp : Nat) (w : World) (l : List UInt8) (n : Int) (h : Wr B wp w l) (hwp : B ≤ wp) (hl : l.length + 1 ≤ 1000000000) :
    Calls Tryd.prog 32 #[.pointer (some ⟨wp, 0, none⟩), .int .i64 n] w fun e w' => e = .returned (.tuple #[]) ∧ Wr B wp w' (l ++ big n 1) ∧ FW B wp w w' := by
  have hA := h.alloc (Obj.cells #[.int .u8 (n % 256)] 5)
  have F0 : Hid _ := (FW.refl B wp w).alloc (Obj.cells #[.int .u8 (n % 256)] 5)
  obtain ⟨⟨v, h1, h2⟩, hB⟩ := hA
  have c0 : w.cell? ⟨wp, 0, none⟩ = some v := by
    obtain ⟨⟨v2, h3, h4⟩, hB⟩ := h
    have := (Below.heap_alloc w (Obj.cells #[.int .u8 (n % 256)] 5) _ (Array.getElem?_eq_some_iff.1 h3).1).symm.trans h1
    simp [World.cell?, this]
  have hnews : (w.alloc (Obj.cells #[.int .u8 (n % 256)] 5)).heap[w.heap.size]? = some (Obj.cells #[.int .u8 (n % 256)] 5) := (MapKept.heap_alloc w _).1
  obtain ⟨i0, hi0, hz0, hz1, hz2⟩ := info_parts infos5
  go_enter Tryd.func32, Tryd.ntmps32
  go_wp2_with (at_builtin; refine wpList_append_own_at _ rfl _ _ 42 rfl B 5 i0 (.int .u8 0) 1 1 Tryd.underlying42 hi0 hz0 hz1 hz2 rfl (by omega) _ _ _ rfl h2 ⟨w.heap.size, 0, none⟩ 1 1 [.int .u8 (n % 256)] rfl rfl (World.news_of_block hnews) (by simp [Value.oneCell']) (by unfold maxLen; omega) (by omega) hB ?_)
  intro v' w1 k1 kg _ _
  have Q : Hid _ := wr_put (l' := l ++ big n 1) h1 h2 hB hwp (by rw [byteCells_app, cells1]; exact k1) (by rw [List.length_append]; rfl) kg
  obtain ⟨d0, d1, d2⟩ := wr_kept h1 h2 kg
  obtain ⟨p, m, c, rfl⟩ := own_slice k1
  clear k1 kg c0
  go_wp2
  go_end0
  exact ⟨rfl, Q.out.1, F0.out.trans Q.out.2⟩
theorem wtwo_any (B wp : Nat) (w : World) (l : List UInt8) (n : Int) (h : Wr B wp w l) (hwp : B ≤ wp) (hl : l.length + 2 ≤ 1000000000) :
    Calls Tryd.prog 31 #[.pointer (some ⟨wp, 0, none⟩), .int .i64 n] w fun e w' => e = .returned (.tuple #[]) ∧ Wr B wp w' (l ++ big n 2) ∧ FW B wp w w' := by
  have hA := h.alloc (Obj.cells #[.int .u8 (n / 256 % 256), .int .u8 (n % 256)] 5)
  have F0 : Hid _ := (FW.refl B wp w).alloc (Obj.cells #[.int .u8 (n / 256 % 256), .int .u8 (n % 256)] 5)
  obtain ⟨⟨v, h1, h2⟩, hB⟩ := hA
  have c0 : w.cell? ⟨wp, 0, none⟩ = some v := by
    obtain ⟨⟨v2, h3, h4⟩, hB⟩ := h
    have := (Below.heap_alloc w (Obj.cells #[.int .u8 (n / 256 % 256), .int .u8 (n % 256)] 5) _ (Array.getElem?_eq_some_iff.1 h3).1).symm.trans h1
    simp [World.cell?, this]
  have hnews : (w.alloc (Obj.cells #[.int .u8 (n / 256 % 256), .int .u8 (n % 256)] 5)).heap[w.heap.size]? = some (Obj.cells #[.int .u8 (n / 256 % 256), .int .u8 (n % 256)] 5) := (MapKept.heap_alloc w _).1
  obtain ⟨i0, hi0, hz0, hz1, hz2⟩ := info_parts infos5
  go_enter Tryd.func31, Tryd.ntmps31
  go_wp2_with (at_builtin; refine wpList_append_own_at _ rfl _ _ 42 rfl B 5 i0 (.int .u8 0) 1 1 Tryd.underlying42 hi0 hz0 hz1 hz2 rfl (by omega) _ _ _ rfl h2 ⟨w.heap.size, 0, none⟩ 2 2 [.int .u8 (n / 256 % 256), .int .u8 (n % 256)] rfl rfl (World.news_of_block hnews) (by simp [Value.oneCell']) (by unfold maxLen; omega) (by omega) hB ?_)
  intro v' w1 k1 kg _ _
  have Q : Hid _ := wr_put (l' := l ++ big n 2) h1 h2 hB hwp (by rw [byteCells_app, cells2]; exact k1) (by rw [List.length_append]; rfl) kg
  obtain ⟨d0, d1, d2⟩ := wr_kept h1 h2 kg
  obtain ⟨p, m, c, rfl⟩ := own_slice k1
  clear k1 kg c0
  go_wp2
  go_end0
  exact ⟨rfl, Q.out.1, F0.out.trans Q.out.2⟩
end
end Go.Proofs.YtlekoldicnfeeaaDoor
