/-
  The document's layer code: the first instruction of a function that cannot be (fun).
-/
import Derived.Test.YtlekoldicnfeeaaDoorC10
import Derived.Test.YtlekoldicnfeeaaDoorC11
import Derived.Laws.MakeOwn
namespace Go.Proofs.YtlekoldicnfeeaaDoor
open Go.RowKit Go.Deep
def nextP (fs : List Fn) (x : In) (s : Sn) : Sn := ⟨true, s.vals - takesP fs x + putsP x, if x.op = 20 then s.tries + 1 else if x.op = 21 then s.tries - 1 else s.tries⟩
def jumpP (fs : List Fn) (x : In) (s : Sn) : Sn := ⟨true, s.vals - takesP fs x + putsP x + (if x.op = 20 then 1 else 0), s.tries⟩
/-- May the instruction stand where so much is known? -/
def mayP (fs : List Fn) (x : In) (s : Sn) : Bool :=
  s.is && (decide (takesP fs x ≤ s.vals) && ((if x.op = 17 ∨ x.op = 16 then decide (s.vals = takesP fs x) && decide (s.tries = 0) else true) && (decide (0 ≤ (nextP fs x s).tries) && (decide ((nextP fs x s).vals ≤ 5000) && decide ((jumpP fs x s).vals ≤ 5000)))))
def flowJ (fs : List Fn) (x : In) (i : Nat) (L : List Sn) : Bool × List Sn := if mayP fs x ((L[i]?).getD default) = true then (if x.op = 18 ∨ x.op = 19 ∨ x.op = 20 then toldP L x.a.toNat (jumpP fs x ((L[i]?).getD default)) i else (true, L)) else (false, L)
/-- One instruction: may it be, and what is known then. -/
def flowP (fs : List Fn) (x : In) (i : Nat) (L : List Sn) : Bool × List Sn := if (flowJ fs x i L).1 = true then (if x.op = 18 ∨ x.op = 17 ∨ x.op = 16 ∨ x.op = 22 then flowJ fs x i L else toldP (flowJ fs x i L).2 (i + 1) (nextP fs x ((L[i]?).getD default)) i) else (false, (flowJ fs x i L).2)
def flowFrom (fs : List Fn) : List In → Nat → List Sn → Int × Int
  | [], i, L => if ((L[i]?).getD default).is = true then (20, i) else (0, 0)
  | x :: r, i, L => if (flowP fs x i L).1 = true then flowFrom fs r (i + 1) (flowP fs x i L).2 else (20, i)
def operFrom (nt nf : Nat) (f : Fn) (main : Bool) : List In → Nat → Option (Int × Int)
  | [], _ => none
  | x :: r, i => if operandsP nt nf f x main = 0 then operFrom nt nf f main r (i + 1) else some (operandsP nt nf f x main, i)
def startL (n : Nat) : List Sn := ⟨true, 0, 0⟩ :: List.replicate n ⟨false, 0, 0⟩
def funP (nt : Nat) (fs : List Fn) (f : Fn) (main : Bool) : Int × Int := match operFrom nt fs.length f main f.ins 0 with
  | some r => r
  | none => flowFrom fs f.ins 0 (startL f.ins.length)
theorem drop_oper (nt nf : Nat) (f : Fn) (main : Bool) (l : List In) (i : Nat) (hi : i < l.length) : operFrom nt nf f main (l.drop i) i = (if operandsP nt nf f (l[i]'hi) main = 0 then operFrom nt nf f main (l.drop (i + 1)) (i + 1) else some (operandsP nt nf f (l[i]'hi) main, i)) := by
  rw [List.drop_eq_getElem_cons hi, operFrom]
theorem operFrom_none (nt nf : Nat) (f : Fn) (main : Bool) : ∀ (l : List In) (i : Nat), operFrom nt nf f main l i = none → ∀ x ∈ l, operandsP nt nf f x main = 0
  | [], _, _, x, hx => by cases hx
  | y :: r, i, h, x, hx => by
    rw [operFrom] at h
    split at h
    · rename_i h0
      rcases List.mem_cons.1 hx with rfl | hx
      · exact h0
      · exact operFrom_none nt nf f main r (i + 1) h x hx
    · cases h
theorem drop_flow (fs : List Fn) (l : List In) (i : Nat) (hi : i < l.length) (L : List Sn) : flowFrom fs (l.drop i) i L = (if (flowP fs (l[i]'hi) i L).1 = true then flowFrom fs (l.drop (i + 1)) (i + 1) (flowP fs (l[i]'hi) i L).2 else (20, i)) := by
  rw [List.drop_eq_getElem_cons hi, flowFrom]
theorem infos64 : (Tryd.prog.info? 117).map (fun i => (i.zero, i.size, i.bytes)) = some (some (.agg #[.bool false, .int .i64 0, .int .i64 0]), 3, 24) := by kernel_rfl
theorem make62 (n : Nat) (hn : n ≤ 65535) (w : World) : (Instr.makeSlice 115 (.int .i64 ((n : Int) + 1)) (.int .i64 ((n : Int) + 1))).run Tryd.prog w = .ok (.slice (some ⟨w.heap.size, 0, none⟩) (n + 1) (n + 1)) (w.alloc (.cells (madeCells #[.bool false, .int .i64 0, .int .i64 0] ((n + 1) * 3)) 117)) := by
  obtain ⟨i, h1, h2, h3, h4⟩ := info_parts infos64
  have hr := run_make (P := Tryd.prog) w 115 117 i _ Tryd.underlying115 h1 h2 .i64 .i64 ((n : Int) + 1) ((n : Int) + 1) (by omega) (Int.le_refl _) (by rw [h4]; omega) (by omega)
  rw [h3] at hr
  have e : ((n : Int) + 1).toNat = n + 1 := by omega
  rw [e] at hr
  exact hr
/-- What is known lies within bounds. -/
def LOk (L : List Sn) (i : Nat) : Prop := ∀ s ∈ L, 0 ≤ s.vals ∧ s.vals ≤ 5000 ∧ 0 ≤ s.tries ∧ s.tries ≤ i
theorem puts_range (x : In) : 0 ≤ putsP x ∧ putsP x ≤ 1 := by unfold putsP; split <;> omega
theorem two_range {v : Int} (h : isTwo v = true) : 0 ≤ v ∧ v ≤ 65535 := by
  unfold isTwo at h
  simpa using h
theorem Fn.ok_parts {f : Fn} (h : f.ok = true) : isTwo f.free = true ∧ isTwo f.slots = true ∧ isTwo f.ins.length = true ∧ ∀ x ∈ f.ins, x.ok = true := by
  unfold Fn.ok at h
  simpa only [Bool.and_eq_true, List.all_eq_true] using h
theorem In.ok_two {x : In} (h : x.ok = true) (hf : form x.op = [110, 110]) : isTwo x.a = true ∧ isTwo x.b = true := by
  unfold In.ok at h
  have h1 : (x.st 1).2 = true := by
    cases hc : (x.st 1).2 with
    | true => rfl
    | false => rw [← x.st_stop hc (by omega), hc] at h; cases h
  have h0 : (x.st 0).2 = true := by
    cases hc : (x.st 0).2 with
    | true => rfl
    | false => rw [In.st, if_neg (by simp [hc]), hc] at h1; cases h1
  rw [In.st, if_pos h1] at h
  rw [In.st, if_pos h0] at h1
  simp only [argOk, hf, In.arg] at h h1
  exact ⟨by simpa using h1, by simpa using h⟩
theorem In.ok_one {x : In} (h : x.ok = true) (hf : form x.op = [110]) : isTwo x.a = true := by
  unfold In.ok at h
  have h1 : (x.st 1).2 = true := by
    cases hc : (x.st 1).2 with
    | true => rfl
    | false => rw [← x.st_stop hc (by omega), hc] at h; cases h
  have h0 : (x.st 0).2 = true := by
    cases hc : (x.st 0).2 with
    | true => rfl
    | false => rw [In.st, if_neg (by simp [hc]), hc] at h1; cases h1
  rw [In.st, if_pos h0] at h1
  simp only [argOk, hf, In.arg] at h1
  simpa using h1
theorem oper_make {nt nf : Nat} {f : Fn} {x : In} {main : Bool} (h : operandsP nt nf f x main = 0) (hx : x.op = 13) : 0 < x.a ∧ x.a < nf := by
  unfold operandsP at h
  rw [if_neg (by omega)] at h
  split at h
  · rename_i ho
    unfold opOk at ho
    simpa [hx] using ho
  · cases h
theorem oper_jump {nt nf : Nat} {f : Fn} {x : In} {main : Bool} (h : operandsP nt nf f x main = 0) (hx : x.op = 18 ∨ x.op = 19 ∨ x.op = 20) : x.a < f.ins.length := by
  unfold operandsP at h
  by_cases hc : (f.ins.length : Int) ≤ x.a
  · rw [if_pos ⟨hx, hc⟩] at h
    cases h
  · omega
theorem takes_range {nt : Nat} {fs : List Fn} {f : Fn} {x : In} {main : Bool} (h : operandsP nt fs.length f x main = 0) (hx : x.ok = true) (hfs : ∀ g ∈ fs, g.ok = true) : 0 ≤ takesP fs x ∧ takesP fs x ≤ 65535 := by
  unfold takesP
  split
  · omega
  · split
    · rename_i h7
      exact two_range (In.ok_two hx (by rw [h7]; rfl)).2
    · split
      · rename_i h13
        obtain ⟨h1, h2⟩ := oper_make h h13
        have hk : x.a.toNat < fs.length := by omega
        rw [List.getElem?_eq_getElem hk]
        exact two_range (Fn.ok_parts (hfs _ (List.getElem_mem hk))).1
      · split
        · omega
        · split
          · split <;> omega
          · omega
/-- One's own cells of what is known. -/
def NBox (w : World) (b : Nat) (s : Sn) : Prop := w.heap[b]? = some (.cells #[.bool s.is, .int .i64 s.vals, .int .i64 s.tries] 117)
theorem NBox.lt {w : World} {b : Nat} {s : Sn} (h : NBox w b s) : b < w.heap.size := (Array.getElem?_eq_some_iff.1 h).1
theorem NBox.kp {X : List Nat} {w w' : World} {b : Nat} {s : Sn} (h : NBox w b s) (hk : Kp X w w') (hx : b ∉ X) : NBox w' b s := (hk.block b h.lt hx).trans h
theorem NBox.cells {w : World} {b : Nat} {s : Sn} (h : NBox w b s) : w.cell? ⟨b, 0, none⟩ = some (.bool s.is) ∧ w.cell? ⟨b, 1, none⟩ = some (.int .i64 s.vals) ∧ w.cell? ⟨b, 2, none⟩ = some (.int .i64 s.tries) ∧ (∀ j, w.frozen? ⟨b, j, none⟩ = false) := by
  unfold NBox at h
  refine ⟨?_, ?_, ?_, fun j => ?_⟩ <;> simp [World.cell?, World.frozen?, h]
theorem NBox.setV {w : World} {b : Nat} {s : Sn} (h : NBox w b s) (v : Int) : NBox (w.setCell ⟨b, 1, none⟩ (.int .i64 v)) b ⟨s.is, v, s.tries⟩ := by
  unfold NBox at *
  simp [World.setCell, Array.getElem?_modify, h]
theorem NBox.setT {w : World} {b : Nat} {s : Sn} (h : NBox w b s) (v : Int) : NBox (w.setCell ⟨b, 2, none⟩ (.int .i64 v)) b ⟨s.is, s.vals, v⟩ := by
  unfold NBox at *
  simp [World.setCell, Array.getElem?_modify, h]
theorem NBox.set3 {w : World} {b : Nat} {s : Sn} (h : NBox w b s) (t : Sn) : NBox (((w.setCell ⟨b, 0, none⟩ (.bool t.is)).setCell ⟨b, 1, none⟩ (.int .i64 t.vals)).setCell ⟨b, 2, none⟩ (.int .i64 t.tries)) b t := by
  unfold NBox at *
  simp [World.setCell, Array.getElem?_modify, h]
theorem startL_ok (n i : Nat) : LOk (startL n) i := by
  intro s hs
  rcases List.mem_cons.1 hs with rfl | hs
  · simp
  · rw [List.eq_of_mem_replicate hs]
    simp
theorem made_start (w : World) (n : Nat) : SBox (w.alloc (.cells ((madeCells #[.bool false, .int .i64 0, .int .i64 0] ((n + 1) * 3)).setIfInBounds 0 (.bool true)) 117)) w.heap.size (startL n) := by
  have hm : ∀ k, k < (n + 1) * 3 → (madeCells #[Value.bool false, .int .i64 0, .int .i64 0] ((n + 1) * 3))[k]? = #[Value.bool false, .int .i64 0, .int .i64 0][k % 3]? := fun k hk => by
    have : k % 3 < 3 := by omega
    simp [madeCells, hk, this]
  refine ⟨(madeCells #[.bool false, .int .i64 0, .int .i64 0] ((n + 1) * 3)).setIfInBounds 0 (.bool true), ?_, ?_, ?_⟩
  · exact (MapKept.heap_alloc w _).1
  · simp [madeCells, startL]
  · intro i hi
    have hi2 : i < n + 1 := by simpa [startL] using hi
    have h0 := hm (i * 3) (by omega)
    have h1 := hm (i * 3 + 1) (by omega)
    have h2 := hm (i * 3 + 2) (by omega)
    rw [show i * 3 % 3 = 0 by omega] at h0
    rw [show (i * 3 + 1) % 3 = 1 by omega] at h1
    rw [show (i * 3 + 2) % 3 = 2 by omega] at h2
    cases i with
    | zero => exact ⟨by simp [startL, madeCells], by simpa [startL, Array.getElem?_setIfInBounds] using h1, by simpa [startL, Array.getElem?_setIfInBounds] using h2⟩
    | succ j =>
      refine ⟨?_, ?_, ?_⟩
      · rw [Array.getElem?_setIfInBounds, if_neg (by omega), h0]; simp [startL]
      · rw [Array.getElem?_setIfInBounds, if_neg (by omega), h1]; simp [startL]
      · rw [Array.getElem?_setIfInBounds, if_neg (by omega), h2]; simp [startL]
theorem told_len (L : List Sn) (k : Nat) (s : Sn) (fr : Int) : (toldP L k s fr).2.length = L.length := by
  unfold toldP
  split <;> simp
theorem told_ok {L : List Sn} {i : Nat} (h : LOk L i) (k : Nat) (s : Sn) (fr : Int) (hs : 0 ≤ s.vals ∧ s.vals ≤ 5000 ∧ 0 ≤ s.tries ∧ s.tries ≤ i) : LOk (toldP L k s fr).2 i := by
  unfold toldP
  split
  · exact h
  · intro x hx
    rcases List.mem_or_eq_of_mem_set hx with hx | rfl
    · exact h x hx
    · exact hs
theorem LOk.mono {L : List Sn} {i j : Nat} (h : LOk L i) (hij : i ≤ j) : LOk L j := fun s hs => by
  obtain ⟨h1, h2, h3, h4⟩ := h s hs
  exact ⟨h1, h2, h3, by omega⟩
theorem may_next {fs : List Fn} {x : In} {s : Sn} {i : Nat} (hm : mayP fs x s = true) (hs : 0 ≤ s.tries ∧ s.tries ≤ i) : (0 ≤ (nextP fs x s).vals ∧ (nextP fs x s).vals ≤ 5000 ∧ 0 ≤ (nextP fs x s).tries ∧ (nextP fs x s).tries ≤ (i + 1 : Nat)) ∧ (0 ≤ (jumpP fs x s).vals ∧ (jumpP fs x s).vals ≤ 5000 ∧ 0 ≤ (jumpP fs x s).tries ∧ (jumpP fs x s).tries ≤ (i + 1 : Nat)) := by
  unfold mayP at hm
  simp only [Bool.and_eq_true, decide_eq_true_eq] at hm
  obtain ⟨_, h2, _, h4, h5, h6⟩ := hm
  have hp := puts_range x
  refine ⟨⟨?_, h5, h4, ?_⟩, ?_, h6, ?_, ?_⟩
  · simp only [nextP]; omega
  · simp only [nextP]; split
    · omega
    · split <;> omega
  · simp only [jumpP]; split <;> omega
  · exact hs.1
  · simp only [jumpP]; omega
theorem flowJ_len (fs : List Fn) (x : In) (i : Nat) (L : List Sn) : (flowJ fs x i L).2.length = L.length := by
  unfold flowJ
  split
  · split
    · exact told_len _ _ _ _
    · rfl
  · rfl
theorem flow_len (fs : List Fn) (x : In) (i : Nat) (L : List Sn) : (flowP fs x i L).2.length = L.length := by
  unfold flowP
  split
  · split
    · exact flowJ_len _ _ _ _
    · rw [told_len]; exact flowJ_len _ _ _ _
  · exact flowJ_len _ _ _ _
theorem flow_ok {fs : List Fn} {x : In} {i : Nat} {L : List Sn} (h : LOk L i) (hi : i < L.length) : LOk (flowP fs x i L).2 (i + 1) := by
  have hg : (L[i]?).getD default = L[i]'hi := by simp [hi]
  have hb := h _ (List.getElem_mem hi)
  have hJ : LOk (flowJ fs x i L).2 (i + 1) := by
    unfold flowJ
    split
    · rename_i hm
      split
      · rw [hg] at hm ⊢
        exact told_ok (h.mono (by omega)) _ _ _ (may_next hm ⟨hb.2.2.1, hb.2.2.2⟩).2
      · exact h.mono (by omega)
    · exact h.mono (by omega)
  unfold flowP
  split
  · rename_i h1
    split
    · exact hJ
    · have hm : mayP fs x (L[i]'hi) = true := by
        rw [← hg]
        unfold flowJ at h1
        split at h1
        · assumption
        · cases h1
      rw [hg]
      exact told_ok hJ _ _ _ (may_next hm ⟨hb.2.2.1, hb.2.2.2⟩).1
  · exact hJ
theorem told_of {n : Nat} (w : World) (b cap : Nat) (L : List Sn) (hn : L.length = n) (i : Nat) (hi : i < n) (s : Sn) (fr : Int) (h : SBox w b L) (hL : n ≤ 100000) :
    Calls Tryd.prog 51 #[.slice (some ⟨b, 0, none⟩) n cap, .int .i64 i, .agg #[.bool s.is, .int .i64 s.vals, .int .i64 s.tries], .int .i64 fr] w fun e w' => e = .returned (.bool (toldP L i s fr).1) ∧ SBox w' b (toldP L i s fr).2 ∧ Kp [b] w w' := by
  subst hn
  exact told_any w b cap L i hi s fr h hL
/-- A region that draws its order, each operation the same in every world of a class. -/
theorem region_in {P : Program} {C : World → Prop} {id : Nat} {Q : Exit → Act → World → Prop} {a : Act} {w : World} {l : List Oper} (hm : P.follows .mixedOrders = true) (hB : Region.lexB .any l.toArray = true) (hC : C w.drew)
    (h : wpQuiet P l.toArray C (fun a' => ∀ w', C w' → Q .normal a' w') l a) : (Code.region id l.toArray true).wp P Q a w := wp_region_quiet (C := C) hm hB hC (by simpa using h)
section
set_option maxHeartbeats 4000000
set_option maxRecDepth 100000
end
end Go.Proofs.YtlekoldicnfeeaaDoor
