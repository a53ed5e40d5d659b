/-
  The document's own solver: what it holds while it reads its pairs.
-/
import Derived.Test.YtbgpjaniohpfaaaK18
import Derived.Test.YtbgpjaniohpfaaaR8
import Derived.Test.YtbgpjaniohpfaaaP6
import Derived.Test.YtbgpjaniohpfaaaP9
namespace Go.Proofs.Ytbgpjaniohpfaaa
open Go.RowKit Go.Deep
/-- The solver, and a row of numbers beside it. -/
structure SR (wb w : World) (sp bM bQ B n nq : Nat) (M : Int → Option Ty) (f : Int → Ty) (q : Int → Int) (V : List Int) (v : Value) (l : List Int) : Prop where
  rq : Rq wb w sp bM bQ n nq M f q V
  own : w.ownsRow B 3 1 v l.length (intCells l)
  size : B ≤ w.heap.size
  lo : sp < B ∧ bM < B ∧ bQ < B ∧ wb.heap.size ≤ B
theorem SR.below {wb w w' : World} {sp bM bQ B n nq : Nat} {M : Int → Option Ty} {f : Int → Ty} {q : Int → Int} {V : List Int} {v : Value} {l : List Int} (h : SR wb w sp bM bQ B n nq M f q V v l) (hb : Below w.heap.size w w') : SR wb w' sp bM bQ B n nq M f q V v l :=
  ⟨h.rq.below hb, owns_keep h.own hb, Nat.le_trans h.size hb.size, h.lo⟩
theorem SR.base {wb w : World} {sp bM bQ B n nq : Nat} {M : Int → Option Ty} {f : Int → Ty} {q : Int → Int} {V : List Int} {v : Value} {l : List Int} (h : SR wb w sp bM bQ B n nq M f q V v l) : Below wb.heap.size wb w := h.rq.sv.base
theorem varsS {wb w : World} {sp bM bQ B n nq : Nat} {M : Int → Option Ty} {f : Int → Ty} {q : Int → Int} {V : List Int} {v : Value} {l : List Int} (h : SR wb w sp bM bQ B n nq M f q V v l) (T : Ty) (cs : List Value) (hT : TyIn wb cs T) (hl : l.length + T.count ≤ 1000000000) :
    Calls Try.prog 22 #[v, .agg cs.toArray] w fun e w' => ∃ v', e = .returned v' ∧ SR wb w' sp bM bQ B n nq M f q V v' (T.vars l) := by
  refine (vars_any T wb w cs l v B hT h.lo.2.2.2 h.size h.base h.own hl).mono ?_
  rintro e w' ⟨v', rfl, ho, hon⟩
  have hv : ∀ g, v.ownBlock = some g → B ≤ g := fun g hg => (h.own.lt g hg).1
  have hk : Kp v.ownBlock.toList w w' := Kp.of_grown hon.grown (by intro k hk; rw [hk]; simp)
  have hlo := h.lo
  refine ⟨v', rfl, ⟨h.rq.kp hk ⟨?_, ?_, ?_, ?_⟩, ho, Nat.le_trans h.size hk.size, hlo⟩⟩
  · intro hy
    have := hv sp (by simpa using hy)
    omega
  · intro hy
    have := hv bM (by simpa using hy)
    omega
  · intro hy
    have := hv bQ (by simpa using hy)
    omega
  · intro y hy
    have := hv y (by simpa using hy)
    omega
theorem markS {wb w : World} {sp bM bQ B n nq : Nat} {M : Int → Option Ty} {f : Int → Ty} {q : Int → Int} {V : List Int} {v : Value} {l : List Int} (h : SR wb w sp bM bQ B n nq M f q V v l) (k m : Int) (s : ByteArray) (e : Int) (r : List Ty) (p : Option Addr) (cap : Nat)
    (hT : TyIn wb [.int .i64 k, .int .i64 m, .string s, .int .i64 e, .slice p r.length cap] (.mk k m s e r)) (hs : (Ty.mk k m s e r).shaped = true) (hV : ∀ x, (Ty.mk k m s e r).hasV x = true → x ∈ V) :
    Calls Try.prog 23 #[.pointer (some ⟨sp, 0, none⟩), .agg #[.int .i64 k, .int .i64 m, .string s, .int .i64 e, .slice p r.length cap]] w fun e' w' => e' = .returned (.tuple #[]) ∧ ∃ nq', SR wb w' sp bM bQ B n nq' M f ((Ty.mk k m s e r).marks q) V v l := by
  refine (markedR_any wb sp bM bQ n M f V _ w nq q k m s e r p cap rfl h.rq hT ⟨hs, trivial⟩ hV).mono ?_
  intro e' w' hp
  cases hp with
  | mk nq' he hS hk =>
  refine ⟨he, nq', hS, ownsRow.kp h.own hk (fun g hg => ?_), Nat.le_trans h.size hk.size, h.lo⟩
  have := (h.own.lt g hg).1
  have := h.lo
  simp
  omega
theorem SR.same {wb w w' : World} {sp bM bQ B n nq n' nq' : Nat} {M M' : Int → Option Ty} {f f' : Int → Ty} {q q' : Int → Int} {V : List Int} {v : Value} {l : List Int} (h : SR wb w sp bM bQ B n nq M f q V v l) (hr : Rq wb w' sp bM bQ n' nq' M' f' q' V) (hk : Kp [bM, bQ] w w') : SR wb w' sp bM bQ B n' nq' M' f' q' V v l := by
  refine ⟨hr, ownsRow.kp h.own hk (fun g hg => ?_), Nat.le_trans h.size hk.size, h.lo⟩
  have := (h.own.lt g hg).1
  have := h.lo
  simp
  omega
/-- The cells of a pair. -/
structure Cells10 (w : World) (b o : Nat) (k n : Int) (s : ByteArray) (e : Int) (q : Option Addr) (len cap : Nat) (k' n' : Int) (s' : ByteArray) (e' : Int) (q' : Option Addr) (len' cap' : Nat) : Prop where
  c0 : w.cell? ⟨b, o, none⟩ = some (.int .i64 k)
  c1 : w.cell? ⟨b, o + 1, none⟩ = some (.int .i64 n)
  c2 : w.cell? ⟨b, o + 2, none⟩ = some (.string s)
  c3 : w.cell? ⟨b, o + 3, none⟩ = some (.int .i64 e)
  c4 : w.cell? ⟨b, o + 4, none⟩ = some (.slice q len cap)
  c5 : w.cell? ⟨b, o + 5, none⟩ = some (.int .i64 k')
  c6 : w.cell? ⟨b, o + 5 + 1, none⟩ = some (.int .i64 n')
  c7 : w.cell? ⟨b, o + 5 + 2, none⟩ = some (.string s')
  c8 : w.cell? ⟨b, o + 5 + 3, none⟩ = some (.int .i64 e')
  c9 : w.cell? ⟨b, o + 5 + 4, none⟩ = some (.slice q' len' cap')
  lt : b < w.heap.size
theorem Cells10.below {w w' : World} {b o : Nat} {k n : Int} {s : ByteArray} {e : Int} {q : Option Addr} {len cap : Nat} {k' n' : Int} {s' : ByteArray} {e' : Int} {q' : Option Addr} {len' cap' : Nat} (h : Cells10 w b o k n s e q len cap k' n' s' e' q' len' cap') (hb : Below w.heap.size w w') : Cells10 w' b o k n s e q len cap k' n' s' e' q' len' cap' :=
  ⟨(hb.cell (p := ⟨b, o, none⟩) h.lt).trans h.c0, (hb.cell (p := ⟨b, o + 1, none⟩) h.lt).trans h.c1, (hb.cell (p := ⟨b, o + 2, none⟩) h.lt).trans h.c2, (hb.cell (p := ⟨b, o + 3, none⟩) h.lt).trans h.c3, (hb.cell (p := ⟨b, o + 4, none⟩) h.lt).trans h.c4,
   (hb.cell (p := ⟨b, o + 5, none⟩) h.lt).trans h.c5, (hb.cell (p := ⟨b, o + 5 + 1, none⟩) h.lt).trans h.c6, (hb.cell (p := ⟨b, o + 5 + 2, none⟩) h.lt).trans h.c7, (hb.cell (p := ⟨b, o + 5 + 3, none⟩) h.lt).trans h.c8, (hb.cell (p := ⟨b, o + 5 + 4, none⟩) h.lt).trans h.c9, Nat.lt_of_lt_of_le h.lt hb.size⟩
/-- What the document's Solve leaves. -/
inductive SolveRPost (w : World) (ps : List (Ty × Ty)) (e' : Ending) (w' : World) : Prop
  | arg (i : Nat) (hi : i < ps.length) (h1 : ∀ j, j < i → ∀ (hj' : j < ps.length), (ps[j]'hj').1.proper = true ∧ (ps[j]'hj').2.proper = true) (h2 : ¬ ((ps[i]'hi).1.proper = true ∧ (ps[i]'hi).2.proper = true)) (he : e' = .returned (.tuple #[.slice none 0 0, .int .i64 21, .int .i64 i])) (hb : Below w.heap.size w w') : SolveRPost w ps e' w'
  | fail (i : Nat) (hi : i < ps.length) (s1 s2 : St) (e : Int) (hp : ∀ p ∈ ps, p.1.proper = true ∧ p.2.proper = true) (h1 : Uni (St.start ps) (ps.take i) 0 s1) (h2 : Uni s1 [ps[i]'hi] e s2) (h0 : ¬ e = 0) (he : e' = .returned (.tuple #[.slice none 0 0, .int .i64 e, .int .i64 i])) (hb : Below w.heap.size w w') : SolveRPost w ps e' w'
  | big (s1 : St) (x : Int) (hp : ∀ p ∈ ps, p.1.proper = true ∧ p.2.proper = true) (h1 : Uni (St.start ps) ps 0 s1) (hx : x ∈ allVars ps) (h2 : 400 < (s1.sub x).count) (he : e' = .returned (.tuple #[.slice none 0 0, .int .i64 12, .int .i64 ps.length])) (hb : Below w.heap.size w w') : SolveRPost w ps e' w'
  | ok (s1 : St) (v : Value) (base : Nat) (L : List (Int × List Value × Ty)) (hp : ∀ p ∈ ps, p.1.proper = true ∧ p.2.proper = true) (h1 : Uni (St.start ps) ps 0 s1) (hc : ∀ x ∈ allVars ps, (s1.sub x).count ≤ 400) (hL : L.map (fun x => (x.1, x.2.2)) = ((allVars ps).mergeSort leI).map (fun x => (x, (s1.sub x).app (mkv s1.eq)))) (he : e' = .returned (.tuple #[v, .int .i64 0, .int .i64 0]))
      (ho : w'.ownsRow base 35 6 v L.length (bindRow L)) (hT : TysAt (fun _ => True) w' (L.map (·.2))) (hb : Below w.heap.size w w') : SolveRPost w ps e' w'
end Go.Proofs.Ytbgpjaniohpfaaa
