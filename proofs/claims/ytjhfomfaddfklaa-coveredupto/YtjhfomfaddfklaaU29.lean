/-
  The law Covered: the rows that it gathers, each of one pattern that it has made itself.
-/
import Derived.Test.YtjhfomfaddfklaaMF
namespace Go.Proofs.Ytjhfomfaddfklaa
open Go.RowKit Go.Deep
/-- The pattern lies in blocks from B on, off one block. -/
def Off (B : Nat) (o : Option Nat) (w : World) (c : PC) (P : Pt) : Prop := ∀ w', (∀ k, B ≤ k → k < w.heap.size → o ≠ some k → w'.heap[k]? = w.heap[k]?) → PtIn w' c P
theorem Off.in_ {B : Nat} {o : Option Nat} {w : World} {c : PC} {P : Pt} (h : Off B o w c P) : PtIn w c P := h w (fun _ _ _ _ => rfl)
theorem Off.step {B : Nat} {o o' : Option Nat} {w w' : World} {c : PC} {P : Pt} (h : Off B o w c P) (hs : w.heap.size ≤ w'.heap.size) (hk : ∀ k, B ≤ k → k < w.heap.size → o ≠ some k → w'.heap[k]? = w.heap[k]?) (ho : ∀ k, k < w.heap.size → o ≠ some k → o' ≠ some k) : Off B o' w' c P := fun w'' h'' => h w'' (fun k h0 h1 h2 => (h'' k h0 (by omega) (ho k h1 h2)).trans (hk k h0 h1 h2))
theorem Fresh.off {B B' : Nat} {w : World} {c : PC} {P : Pt} (h : Fresh B w c P) {o : Option Nat} (ho : ∀ k, o = some k → k < B) (hB : B' ≤ B) : Off B' o w c P := fun w' h' => h w' (fun k h1 h2 => h' k (by omega) h2 (fun e => by have := ho k e; omega))
/-- Rows of one pattern each, of one's own. -/
structure Own1 (w : World) (base : Nat) (v : Value) (l : List Pt) (M : List RC) : Prop where
  row : w.ownsRow base 23 1 v M.length (M.map RC.val)
  ls : M.map (·.l) = rows1 l
  els : ∀ x ∈ M, ∃ b c P, x.l = [P] ∧ x.q = some ⟨b, 0, none⟩ ∧ x.cap = 1 ∧ base ≤ b ∧ Cells6 w b 0 c ∧ v.ownBlock ≠ some b ∧ Off base v.ownBlock w c P
theorem Own1.nil (w : World) (base : Nat) : Own1 w base (.slice none 0 0) [] [] := ⟨World.ownsRow_nil _ _ _ _, rfl, fun _ hx => by cases hx⟩
theorem Cells6.block {w w' : World} {b o : Nat} {c : PC} (h : Cells6 w b o c) (hb : w'.heap[b]? = w.heap[b]?) : Cells6 w' b o c := by
  have e : ∀ j, w'.cell? ⟨b, j, none⟩ = w.cell? ⟨b, j, none⟩ := fun j => World.cell?_of_block (w := w) hb
  exact ⟨(e _).trans h.c0, (e _).trans h.c1, (e _).trans h.c2, (e _).trans h.c3, (e _).trans h.c4, (e _).trans h.c5⟩
/-- Where nothing from the base on has changed. -/
theorem Own1.other {w w' : World} {base : Nat} {v : Value} {l : List Pt} {M : List RC} (h : Own1 w base v l M) (hs : w.heap.size ≤ w'.heap.size) (hk : ∀ k, base ≤ k → k < w.heap.size → w'.heap[k]? = w.heap[k]?) : Own1 w' base v l M := by
  refine ⟨?_, h.ls, fun x hx => ?_⟩
  · obtain ⟨q1, q2⟩ := h.row
    refine ⟨q1, ?_⟩
    rcases q2 with q2 | ⟨g, cap, cur, qv, qg, qh, qq⟩
    · exact .inl q2
    · have hlt := h.row.lt g (by rw [qv]; rfl)
      exact .inr ⟨g, cap, cur, qv, qg, (hk g hlt.1 hlt.2).trans qh, qq⟩
  · obtain ⟨b, c, P, h1, h2, h3, h0, h4, h5, h6⟩ := h.els x hx
    exact ⟨b, c, P, h1, h2, h3, h0, h4.block (hk b h0 h4.lt), h5, h6.step hs (fun k hb hk' _ => hk k hb hk') (fun _ _ h => h)⟩
theorem Own1.below {w w' : World} {base : Nat} {v : Value} {l : List Pt} {M : List RC} (h : Own1 w base v l M) (hb : Below w.heap.size w w') : Own1 w' base v l M := h.other hb.size (fun k _ hk => hb.block k hk)
theorem Own1.mat {w : World} {base : Nat} {v : Value} {l : List Pt} {M : List RC} (h : Own1 w base v l M) : OwnM w w base v M :=
  ⟨h.row, fun x hx => by
    obtain ⟨b, c, P, h1, h2, h3, _, h4, h5, h6⟩ := h.els x hx
    rw [h1, h2, h3]
    refine ⟨⟨by simp [maxLen], fun i hi => ?_⟩, by simp, fun b' hb' => ?_⟩
    · obtain rfl : i = 0 := by simpa using hi
      exact ⟨b, 0, c, rfl, by simpa using h4, h6.in_⟩
    · cases hb'
      exact ⟨h5, h4.lt⟩⟩
theorem Own1.len {w : World} {base : Nat} {v : Value} {l : List Pt} {M : List RC} (h : Own1 w base v l M) : M.length = l.length := by
  have := congrArg List.length h.ls
  simpa [rows1] using this
/-- What is handed on. -/
theorem Own1.at {w : World} {base : Nat} {v : Value} {l : List Pt} {M : List RC} (h : Own1 w base v l M) (hm : M.length ≤ maxLen) : ∃ q cap, v = .slice q (rows1 l).length cap ∧ (rows1 l).length ≤ cap ∧ MatAt w w q (rows1 l) := by
  obtain ⟨q, cap, h1, h2, h3⟩ := h.mat.at hm
  rw [h.ls] at h3
  have e : (rows1 l).length = M.length := by rw [← h.ls]; simp
  exact ⟨q, cap, by rw [e]; exact h1, by rw [e]; exact h2, h3⟩
/-- A row more. -/
theorem wpList_append_one {ops : Array Oper} {rest : List Oper} {op : Oper} {a : Act} {Q : Exit → Act → World → Prop} (hgd : op.guard = none) (s x : Operand) (hop : op.op = .call { callee := .builtin .append, args := #[s, x], argTypes := #[22, 22] })
    {w : World} {base : Nat} {v : Value} {l : List Pt} {M : List RC} (ho : Own1 w base v l M) (b : Nat) (c : PC) (P : Pt) (hr : Cells6 w b 0 c) (hrq : v.ownBlock ≠ some b) (hb0 : base ≤ b) (hP : Off base v.ownBlock w c P) (hl : M.length + 1 ≤ 1000000) (hbase : base ≤ w.heap.size) (hs : a.eval s = v) (g : Nat) (hg : g = w.heap.size) (hx : a.eval x = .slice (some ⟨g, 0, none⟩) 1 1)
    (h : ∀ v' w', Hid (Own1 w' base v' (l ++ [P]) (M ++ [⟨some ⟨b, 0, none⟩, 1, [P]⟩])) → Hid ((w.alloc (.cells #[.slice (some ⟨b, 0, none⟩) 1 1] 23)).grownBy w' v.ownBlock) → wpList Try.prog ops Q rest (a.put op.dst v') w') : wpList Try.prog ops Q (op :: rest) a (w.alloc (.cells #[.slice (some ⟨b, 0, none⟩) 1 1] 23)) := by
  subst hg
  obtain ⟨i0, hi0, hzz0, hzz1, hzz2⟩ := info_parts infos23
  refine wpList_append_own_at _ hgd s x 22 hop base 23 i0 _ 1 24 slice22 hi0 hzz0 hzz1 hzz2 rfl (by decide) v M.length (M.map RC.val) hs (ho.row.alloc _) ⟨w.heap.size, 0, none⟩ 1 1 [.slice (some ⟨b, 0, none⟩) 1 1] hx rfl (cell_one_new w _ 23) (by intro u hu; simp only [List.mem_cons, List.not_mem_nil, or_false] at hu; subst hu; rfl) (by unfold maxLen; omega) (by omega) (by simp; omega) ?_
  intro v' w' h1 h2 _ h4
  have hkeep : ∀ k, k < w.heap.size → v.ownBlock ≠ some k → w'.heap[k]? = w.heap[k]? := fun k hk hne => by
    have hlt : k < (w.alloc (.cells #[.slice (some ⟨b, 0, none⟩) 1 1] 23)).heap.size := by simp; omega
    exact (h2.block k hlt (fun e => hne e.symm)).trans (Below.heap_alloc _ _ _ hk)
  have hown : ∀ k, k < w.heap.size → v.ownBlock ≠ some k → v'.ownBlock ≠ some k := fun k hk hne e => by
    rcases h4 with h4 | h4
    · rw [h4] at e
      exact hne e
    · rw [h4] at e
      simp at e
      omega
  have hsz : w.heap.size ≤ w'.heap.size := by have := h2.size; simp at this; omega
  have hcells : ∀ {d : PC} {g : Nat}, Cells6 w g 0 d → v.ownBlock ≠ some g → Cells6 w' g 0 d := fun {d g} hc hne => hc.block (hkeep g hc.lt hne)
  refine h v' w' ⟨by simpa [RC.val] using h1, ?_, fun y hy => ?_⟩ h2
  · rw [List.map_append, ho.ls]
    simp [rows1]
  · rcases List.mem_append.1 hy with hy | hy
    · obtain ⟨b', c', P', e1, e2, e3, e0, e4, e5, e6⟩ := ho.els y hy
      exact ⟨b', c', P', e1, e2, e3, e0, hcells e4 e5, hown _ e4.lt e5, e6.step hsz (fun k _ => hkeep k) hown⟩
    · obtain rfl : y = ⟨some ⟨b, 0, none⟩, 1, [P]⟩ := by simpa using hy
      exact ⟨b, c, P, rfl, rfl, rfl, hb0, hcells hr hrq, hown _ hr.lt hrq, hP.step hsz (fun k _ => hkeep k) hown⟩
/-- The six sorts. -/
theorem sort_six (n : Int) (h0 : 0 ≤ n) (h : n < 6) : ∃ t : Sr, t ≠ .p13 ∧ t.nr = n := by
  have : n = 0 ∨ n = 1 ∨ n = 2 ∨ n = 3 ∨ n = 4 ∨ n = 5 := by omega
  rcases this with rfl | rfl | rfl | rfl | rfl | rfl
  · exact ⟨.num, by simp, rfl⟩
  · exact ⟨.two, by simp, rfl⟩
  · exact ⟨.opt, by simp, rfl⟩
  · exact ⟨.lst, by simp, rfl⟩
  · exact ⟨.p12, by simp, rfl⟩
  · exact ⟨.thr, by simp, rfl⟩
theorem cntP_pos (P : Pt) : 1 ≤ cntP P := by
  rw [cnt_kids]
  omega
end Go.Proofs.Ytjhfomfaddfklaa
