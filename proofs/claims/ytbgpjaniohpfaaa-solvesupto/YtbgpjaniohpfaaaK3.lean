/-
  What a variable stands for in the end (top).
-/
import Derived.Test.YtbgpjaniohpfaaaK2
import Derived.Deep.LoopGhost
import Derived.Deep.Cut
import Derived.Deep.CutRange
import Derived.BigFrame
import Derived.Great.BuildSlice
namespace Go.Proofs.Ytbgpjaniohpfaaa
open Go.RowKit Go.Deep
variable {μ : Marks}
/-- So many steps from a type to what it stands for on top. -/
inductive Chain (M : Int → Option Ty) : Nat → Ty → Ty → Prop
  | here (u : Ty) (h : ¬ (u.kind = 0 ∧ (M u.num).isSome = true)) : Chain M 0 u u
  | step (k : Nat) (u x v : Ty) (h0 : u.kind = 0) (h1 : M u.num = some x) (h : Chain M k x v) : Chain M (k + 1) u v
theorem Full.chain {M : Int → Option Ty} {u T : Ty} (h : Full M u T) : ∃ k v, Chain M k u v ∧ Full M v T ∧ (v.kind = 0 → M v.num = none) := by
  induction h with
  | bound k n s e l U T hk hu h ih =>
    obtain ⟨j, v, h1, h2, h3⟩ := ih
    exact ⟨j + 1, v, Chain.step j _ U v hk hu h1, h2, h3⟩
  | free k n s e l hk hu => exact ⟨0, _, Chain.here _ (by rintro ⟨_, h⟩; unfold Ty.num at h; rw [hu] at h; cases h), Full.free k n s e l hk hu, fun _ => hu⟩
  | args k n s e l r hk hl h ih => exact ⟨0, _, Chain.here _ (by rintro ⟨h, _⟩; exact hk h), Full.args k n s e l r hk hl h, fun h => absurd h hk⟩
/-- A block that holds a type's five cells. -/
def Box (w : World) (b : Nat) (c0 c1 c2 c3 c4 : Value) : Prop := w.heap[b]? = some (.cells #[c0, c1, c2, c3, c4] 33)
theorem Box.kp {X : List Nat} {w w' : World} {b : Nat} {c0 c1 c2 c3 c4 : Value} (h : Box w b c0 c1 c2 c3 c4) (hk : Kp X w w') (hb : b ∉ X) : Box w' b c0 c1 c2 c3 c4 := (hk.block b (Array.getElem?_eq_some_iff.1 h).1 hb).trans h
theorem Box.lt {w : World} {b : Nat} {c0 c1 c2 c3 c4 : Value} (h : Box w b c0 c1 c2 c3 c4) : b < w.heap.size := (Array.getElem?_eq_some_iff.1 h).1
theorem Box.cells {w : World} {b : Nat} {c0 c1 c2 c3 c4 : Value} (h : Box w b c0 c1 c2 c3 c4) : w.cell? ⟨b, 0, none⟩ = some c0 ∧ w.cell? ⟨b, 1, none⟩ = some c1 ∧ w.cell? ⟨b, 2, none⟩ = some c2 ∧ w.cell? ⟨b, 3, none⟩ = some c3 ∧ w.cell? ⟨b, 4, none⟩ = some c4 := by
  unfold Box at h
  simp [World.cell?, h]
theorem Box.frozen {w : World} {b : Nat} {c0 c1 c2 c3 c4 : Value} (h : Box w b c0 c1 c2 c3 c4) (j : Nat) : w.frozen? ⟨b, j, none⟩ = false := by
  unfold Box at h
  simp [World.frozen?, h]
theorem Box.new (w : World) (c0 c1 c2 c3 c4 : Value) : Box (w.alloc (.cells #[c0, c1, c2, c3, c4] 33)) w.heap.size c0 c1 c2 c3 c4 := (MapKept.heap_alloc w _).1
theorem setRow_kp (w : World) (b : Nat) (c : Array Value) : Kp [b] w (w.setRow b c) := ⟨rfl, rfl, rfl, by simp, fun k _ hx => setRow_other w b k c (by simpa using hx)⟩
theorem info33 : (Try.prog.info? 33).map (·.size) = some 5 := by kernel_rfl
/-- A type's five cells are stored over those of another. -/
theorem wpList_store5 {ops : Array Oper} {rest : List Oper} {o : Oper} {a : Act} {w : World} {Q : Exit → Act → World → Prop} (hgd : o.guard = none) (x y : Operand) (ho : o.op = .store 33 x y)
    (hd : o.dst = none) (b : Nat) {d0 d1 d2 d3 d4 c0 c1 c2 c3 c4 : Value} (hx : a.eval x = .pointer (some ⟨b, 0, none⟩)) (hy : a.eval y = .agg #[d0, d1, d2, d3, d4]) (hB : Box w b c0 c1 c2 c3 c4)
    (h1 : d0.oneCell' = true ∧ d1.oneCell' = true ∧ d2.oneCell' = true ∧ d3.oneCell' = true ∧ d4.oneCell' = true)
    (h : ∀ w', Box w' b d0 d1 d2 d3 d4 → Kp [b] w w' → wpList Try.prog ops Q rest a w') : wpList Try.prog ops Q (o :: rest) a w :=
  wpList_store_rowTo hgd 33 x y ho hd b #[d0, d1, d2, d3, d4] hx hy 33 _ hB info33 rfl (by obtain ⟨a0, a1, a2, a3, a4⟩ := h1; simp [a0, a1, a2, a3, a4]) (h _ (setRow_heap w b _ _ 33 _ hB) (setRow_kp w b _))
theorem one5 (k m : Int) (s : ByteArray) (e : Int) (p : Option Addr) (n cap : Nat) : (Value.int .i64 k).oneCell' = true ∧ (Value.int .i64 m).oneCell' = true ∧ (Value.string s).oneCell' = true ∧ (Value.int .i64 e).oneCell' = true ∧ (Value.slice p n cap).oneCell' = true := ⟨rfl, rfl, rfl, rfl, rfl⟩
/-- A block that holds a type. -/
inductive TyBox (μ : Marks) (wb w : World) (b : Nat) : Ty → Prop
  | mk (k m : Int) (s : ByteArray) (e : Int) (l : List Ty) (p : Option Addr) (cap : Nat) (hb : Box w b (.int .i64 k) (.int .i64 m) (.string s) (.int .i64 e) (.slice p l.length cap))
      (ht : TyIn wb [.int .i64 k, .int .i64 m, .string s, .int .i64 e, .slice p l.length cap] (.mk k m s e l)) (hs : (Ty.mk k m s e l).okm μ) : TyBox μ wb w b (.mk k m s e l)
theorem TyBox.kp {X : List Nat} {wb w w' : World} {b : Nat} {u : Ty} (h : TyBox μ wb w b u) (hk : Kp X w w') (hb : b ∉ X) : TyBox μ wb w' b u := by
  cases h with
  | mk k m s e l p cap h1 h2 h3 => exact TyBox.mk k m s e l p cap (h1.kp hk hb) h2 h3
theorem TyBox.lt {wb w : World} {b : Nat} {u : Ty} (h : TyBox μ wb w b u) : b < w.heap.size := by
  cases h with
  | mk k m s e l p cap h1 h2 h3 => exact h1.lt
theorem StandsAt.store {wb w : World} {b n : Nat} {M : Int → Option Ty} (h : StandsAt μ wb w b n M) (hn : n < maxLen) {x : Int} (hx : (Lit.int .i64 x).wf = true) {cs : List Value} {T : Ty} (hT : TyIn wb cs T) (hS : T.okm μ) :
    ∃ w', (Instr.mapUpdate 49 (.map (some b)) (.int .i64 x) (.agg cs.toArray)).run Try.prog w = .ok () w' ∧ StandsAt μ wb w' b (if (M x).isSome = true then n else n + 1) (upd M x (some T)) ∧ Kp [b] w w' := by
  obtain ⟨⟨F, h1, h2⟩, V, hV1, hV2⟩ := h
  obtain ⟨w', hrun, hm, hk⟩ := h1.store map49 hn hx (.agg cs.toArray)
  refine ⟨w', hrun, ⟨⟨upd F x (some (.agg cs.toArray)), ?_, fun y => ?_⟩, ?_⟩, hk⟩
  · have : (F x).isSome = (M x).isSome := by
      rcases h2 x with ⟨e1, e2⟩ | ⟨T, cs, e1, e2, _⟩ <;> rw [e1, e2] <;> rfl
    rw [← this]
    exact hm
  · by_cases hy : y = x
    · subst hy
      exact .inr ⟨T, cs, upd_same _ _ _, upd_same _ _ _, hT, hS⟩
    · rw [upd_other _ _ hy, upd_other _ _ hy]
      exact h2 y
  · by_cases hs : (M x).isSome = true
    · rw [if_pos hs]
      refine ⟨V, hV1, fun y hy => ?_⟩
      by_cases e : y = x
      · subst e; exact hV2 y hs
      · rw [upd_other _ _ e] at hy; exact hV2 y hy
    · rw [if_neg hs]
      refine ⟨x :: V, by simp; omega, fun y hy => ?_⟩
      by_cases e : y = x
      · subst e; exact List.mem_cons_self ..
      · rw [upd_other _ _ e] at hy; exact List.mem_cons_of_mem _ (hV2 y hy)
theorem Chain.det {M : Int → Option Ty} {j : Nat} {u v : Ty} (h : Chain M j u v) : ∀ {i : Nat} {u' v' : Ty}, Chain M i u' v' → u.kind = u'.kind → u.num = u'.num → (M u.num).isSome = true → u.kind = 0 → j = i := by
  induction h with
  | here u h => intro i u' v' _ _ _ hb hk; exact absurd ⟨hk, hb⟩ h
  | step k u x v h0 h1 h ih =>
    intro i u' v' hc hk hn hb _
    cases hc with
    | here _ h' => exact absurd ⟨by rw [← hk]; exact h0, by rw [← hn]; exact hb⟩ h'
    | step i' _ x' _ h0' h1' h' =>
      rw [← hn, h1] at h1'
      cases h1'
      by_cases hx : x.kind = 0 ∧ (M x.num).isSome = true
      · rw [ih h' rfl rfl hx.2 hx.1]
      · cases h with
        | here _ _ => cases h' with
          | here _ _ => rfl
          | step _ _ y _ g0 g1 _ => exact absurd ⟨g0, by rw [g1]; rfl⟩ hx
        | step _ _ y _ g0 g1 _ => exact absurd ⟨g0, by rw [g1]; rfl⟩ hx
theorem Chain.shorter {M : Int → Option Ty} {g : Nat} {u v : Ty} (hu : Chain M (g + 1) u v) (hk : u.kind = 0) (hb : (M u.num).isSome = true) (w : Ty) : ∀ {j : Nat} {y z : Ty}, Chain M j y z → j ≤ g → Chain (upd M u.num (some w)) j y z := by
  intro j y z h
  induction h with
  | here y h =>
    intro _
    refine Chain.here y fun hh => h ⟨hh.1, ?_⟩
    by_cases e : y.num = u.num
    · rw [e]; exact hb
    · rw [upd_other _ _ e] at hh
      exact hh.2
  | step k y x z h0 h1 h ih =>
    intro hj
    refine Chain.step k y x z h0 ?_ (ih (by omega))
    rw [upd_other _ _ ?_]
    · exact h1
    · intro e
      have := (Chain.step k y x z h0 h1 h).det hu (by rw [h0, hk]) e (by rw [h1]; rfl) h0
      omega
/-- Some different things out of a list are no more than it is long. -/
theorem length_le_of_sub : ∀ (L V : List Int), L.Nodup → (∀ x ∈ L, x ∈ V) → L.length ≤ V.length
  | [], _, _, _ => Nat.zero_le _
  | a :: L, V, hn, hs => by
    obtain ⟨ha, hn⟩ := List.nodup_cons.1 hn
    have h1 := length_le_of_sub L (V.erase a) hn (fun x hx => (List.mem_erase_of_ne (by rintro rfl; exact ha hx)).2 (hs x (List.mem_cons_of_mem _ hx)))
    have h2 := hs a (List.mem_cons_self ..)
    have h3 : 0 < V.length := List.length_pos_of_mem h2
    rw [List.length_erase_of_mem h2] at h1
    simp only [List.length_cons]
    omega
/-- A way goes by each variable once. -/
theorem Chain.list {M : Int → Option Ty} {K : Nat} {u v : Ty} (h : Chain M K u v) : ∃ L : List Int, L.length = K ∧ L.Nodup ∧ ∀ y ∈ L, (M y).isSome = true ∧ ∃ j z, j ≤ K ∧ z.kind = 0 ∧ z.num = y ∧ Chain M j z v := by
  induction h with
  | here u h => exact ⟨[], rfl, List.nodup_nil, fun y hy => by cases hy⟩
  | step k u x v h0 h1 h ih =>
    obtain ⟨L, l1, l2, l3⟩ := ih
    have hb : (M u.num).isSome = true := by rw [h1]; rfl
    refine ⟨u.num :: L, by simp [l1], List.nodup_cons.2 ⟨fun hm => ?_, l2⟩, fun y hy => ?_⟩
    · obtain ⟨_, j, z, hj, hz, hzn, hc⟩ := l3 _ hm
      have := (Chain.step k u x v h0 h1 h).det hc (by rw [h0, hz]) hzn.symm hb h0
      omega
    · rcases List.mem_cons.1 hy with rfl | hy
      · exact ⟨hb, k + 1, u, Nat.le_refl _, h0, rfl, Chain.step k u x v h0 h1 h⟩
      · obtain ⟨h2, j, z, hj, h3⟩ := l3 y hy
        exact ⟨h2, j, z, by omega, h3⟩
theorem StandsAt.chain {wb w : World} {b n : Nat} {M : Int → Option Ty} (h : StandsAt μ wb w b n M) {K : Nat} {u v : Ty} (hc : Chain M K u v) : K ≤ n := by
  obtain ⟨L, h1, h2, h3⟩ := hc.list
  obtain ⟨V, h4, h5⟩ := h.2
  have := length_le_of_sub L V h2 (fun x hx => h5 x (h3 x hx).1)
  omega
end Go.Proofs.Ytbgpjaniohpfaaa
