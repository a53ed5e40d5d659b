/-
  Both sides together: the joint state.
-/
import Derived.Test.YtfeopoamednidaaM11
namespace Go.Proofs.Ytfeopoamednidaa
open Go.RowKit Go.Deep Go.IntWalk
/-- The program's heap can be read. -/
theorem pget_of {w : World} {hb : Nat} {cells first : Int} {v : Value} {ts : List Th} (h : HpO w hb cells first v (encL (fun _ => 0) first ts)) (ht : ∀ t ∈ ts, okTh t) : PGet w (.pointer (some ⟨hb, 0, none⟩)) (docOf first ts) := by
  obtain ⟨p, cap, rfl, hA, _⟩ := h.at
  have key : ∀ a t, docOf first ts a = some t → ∃ j : Nat, a = first + j ∧ Hd (encL (fun _ => 0) first ts) j (hdw 0 t) ∧ okTh t ∧ ∀ i (hi : i < t.fs.length), (encL (fun _ => 0) first ts)[j + 1 + i]? = some (fld (t.fs[i]'hi)) := fun a t hat => by
    obtain ⟨l, r, rfl, rfl⟩ := doc_split _ _ _ hat
    exact ⟨total l, rfl, enc_hd (fun _ => 0) first l t r, ht t (by simp), fun i hi => enc_fld (fun _ => 0) first l t r i hi⟩
  refine ⟨fun wx hk a t hat => ?_, fun wx hk a t hat => ?_, fun wx hk a t hat => ?_, fun wx hk a t hat i hi => ?_⟩
  · obtain ⟨j, rfl, hd, hok, _⟩ := key a t hat
    exact kind_any wx hb 0 cells first p cap _ (hA.kp (Kp.of_below (X := []) hk)) j _ hd (by obtain ⟨h1, h2, _⟩ := hok; simp only [hdw]; omega)
  · obtain ⟨j, rfl, hd, hok, _⟩ := key a t hat
    exact tag_any wx hb 0 cells first p cap _ (hA.kp (Kp.of_below (X := []) hk)) j _ hd (by obtain ⟨_, _, h1, h2, _⟩ := hok; simp only [hdw]; omega)
  · obtain ⟨j, rfl, hd, hok, _⟩ := key a t hat
    exact len_any wx hb 0 cells first p cap _ (hA.kp (Kp.of_below (X := []) hk)) j _ hd
  · obtain ⟨j, rfl, hd, hok, hfl⟩ := key a t hat
    refine Calls.mono (get_any wx hb 0 cells first p cap _ (hA.kp (Kp.of_below (X := []) hk)) j _ hd i (by simp only [hdw]; omega) _ (hfl i hi)) ?_
    rintro e w' ⟨rfl, hw⟩
    exact ⟨by rw [fld_cl], hw⟩
/-- A field is set, in the words of things. -/
theorem set_th {w : World} {hb : Nat} {cells first : Int} {v : Value} {ts : List Th} (h : HpO w hb cells first v (encL (fun _ => 0) first ts)) (hc : Closed first ts) (ho : ∀ t ∈ ts, okTh t) {x : Int} {t : Th} (hx : docOf first ts x = some t) (i : Nat) (hi : i < t.fs.length) (c : Cl) (hcr : c.p = true → (docOf first ts c.n).isSome = true) (hcw : wfC c) :
    Calls Try.prog 13 #[.pointer (some ⟨hb, 0, none⟩), .int .i64 x, .int .i64 i, c.val] w fun e w' => ∃ ts', e = .returned (.tuple #[]) ∧ HpO w' hb cells first v (encL (fun _ => 0) first ts') ∧ Closed first ts' ∧ (∀ t ∈ ts', okTh t) ∧ docOf first ts' = upd (docOf first ts) x (some ⟨t.kind, t.tag, t.fs.set i c⟩) ∧ total ts' = total ts ∧ Kp v.ownBlock.toList w w' := by
  obtain ⟨l, r, rfl, rfl⟩ := doc_split _ _ _ hx
  have hd := enc_hd (fun _ => 0) first l t r
  refine Calls.mono (set_any w hb cells first v _ h (total l) _ hd i (by simp only [hdw]; omega) c) ?_
  rintro e w' ⟨w', h1, h2⟩
  have hdoc := doc_set first l t ⟨t.kind, t.tag, t.fs.set i c⟩ r (by simp [Th.sz])
  refine ⟨l ++ ⟨t.kind, t.tag, t.fs.set i c⟩ :: r, rfl, by rw [← enc_set _ _ _ _ _ _ hi]; exact h1, ?_, ?_, hdoc, ?_, h2⟩
  · have hsome : ∀ y, (docOf first (l ++ t :: r) y).isSome = true → (docOf first (l ++ ⟨t.kind, t.tag, t.fs.set i c⟩ :: r) y).isSome = true := fun y hy => by
      rw [hdoc]
      unfold upd
      split
      · rfl
      · exact hy
    intro u hu y hy
    apply hsome
    rcases List.mem_append.1 hu with hu | hu
    · exact hc u (by simp [hu]) y hy
    · rcases List.mem_cons.1 hu with rfl | hu
      · rcases List.mem_or_eq_of_mem_set hy with hy | hy
        · exact hc t (by simp) y hy
        · have h3 := hcr (by rw [← hy])
          rw [← hy] at h3
          exact h3
      · exact hc u (by simp [hu]) y hy
  · intro u hu
    rcases List.mem_append.1 hu with hu | hu
    · exact ho u (by simp [hu])
    · rcases List.mem_cons.1 hu with rfl | hu
      · obtain ⟨k1, k2, k3, k4, k5⟩ := ho t (by simp)
        refine ⟨k1, k2, k3, k4, fun d hd => ?_⟩
        rcases List.mem_or_eq_of_mem_set hd with hd | hd
        · exact k5 d hd
        · rw [hd]
          exact hcw
      · exact ho u (by simp [hu])
  · simp [total_app, total, Th.sz]
/-- Both sides, between two steps. -/
structure Jt (B : Nat) (w : World) (wb hp hd base : Nat) (cells : Int) (S : Nat) (first : Int) (v : Value) (ts : List Th) (vp : Value) (ps : List Cl) (vq : Value) (qs : List Cl) (next : Int) (D : Doc) (mp : Option Nat) (q : Int → Option Addr) (ks : List Int) (R : Int → Int → Prop) : Prop where
  ms : MS w wb (.pointer (some ⟨hp, 0, none⟩)) hd base vp ps vq qs
  hh : HpO w hp cells first v (encL (fun _ => 0) first ts)
  dc : DocAt w hd cells next D mp q ks
  iso : Iso (docOf first ts) D R ps qs
  cl : Closed first ts
  wfp : ∀ c ∈ ps, wfC c
  wfq : ∀ c ∈ qs, wfC c
  oth : ∀ t ∈ ts, okTh t
  qr : ∀ b t a, D b = some t → q b = some a → a = ⟨a.block, 0, none⟩ ∧ vp.ownBlock ≠ some a.block ∧ vq.ownBlock ≠ some a.block ∧ ∃ cur, w.heap[a.block]? = some (.cells cur 50)
  qi : ∀ b b' t t' a a', D b = some t → D b' = some t' → q b = some a → q b' = some a' → a.block = a'.block → b = b'
  nx : 0 ≤ next ∧ next ≤ S
  kl : ∀ y ∈ ks, 0 ≤ y ∧ y < next
  cs : cellsT D ks ≤ 1000000
  fs : first ≤ 1 + 1000000 * S
  pl : ps.length ≤ S
  ok : 0 ≤ cells ∧ cells ≤ 1000000
  sl : S ≤ 3000000000000
  lb : B ≤ wb ∧ B ≤ hp ∧ B ≤ hd ∧ B ≤ base ∧ (∀ k, v.ownBlock = some k → B ≤ k) ∧ (∀ k, mp = some k → B ≤ k) ∧ ∀ b t a, D b = some t → q b = some a → B ≤ a.block
theorem Jt.roots {B : Nat} {w : World} {wb hp hd base : Nat} {cells : Int} {S : Nat} {first : Int} {v : Value} {ts : List Th} {vp : Value} {ps : List Cl} {vq : Value} {qs : List Cl} {next : Int} {D : Doc} {mp : Option Nat} {q : Int → Option Addr} {ks : List Int} {R : Int → Int → Prop} (h : Jt B w wb hp hd base cells S first v ts vp ps vq qs next D mp q ks R) : RootsOk (docOf first ts) ps := by
  intro y hy
  obtain ⟨c, hc, h1, _, h3⟩ := h.iso.roots.mem hy
  obtain ⟨t, u, e1, _⟩ := h.iso.things y c.n (h3 rfl)
  rw [e1]
  rfl
theorem Jt.alike {B : Nat} {w : World} {wb hp hd base : Nat} {cells : Int} {S : Nat} {first : Int} {v : Value} {ts : List Th} {vp : Value} {ps : List Cl} {vq : Value} {qs : List Cl} {next : Int} {D : Doc} {mp : Option Nat} {q : Int → Option Addr} {ks : List Int} {R : Int → Int → Prop} (h : Jt B w wb hp hd base cells S first v ts vp ps vq qs next D mp q ks R) :
    Calls Try.prog 6 #[.pointer (some ⟨wb, 0, none⟩)] w fun e w' => e = .returned (.bool true) ∧ Below w.heap.size w w' := by
  obtain ⟨p, cp, gp, hvp, _, _⟩ := rv_form h.ms.p
  obtain ⟨qq, cq, gq, hvq, _, _⟩ := rv_form h.ms.q
  subst hvp
  subst hvq
  have hkl : ks.length ≤ 1000000 := by have := h.cs; rw [cellsT_eq] at this; omega
  refine alike_any w wb _ hd base p cp ps qq cq qs h.ms cells next (docOf first ts) D mp q ks h.dc (pget_of h.hh h.oth) R h.iso h.wfp h.wfq (fun x t hx c hc => (h.oth t (doc_mem hx)).2.2.2.2 c hc) (by have := h.pl; have := h.sl; omega) (by omega) (fun y hy => i64_wf ?_)
  have h1 := h.kl y hy
  have h2 := h.nx
  have h3 := h.sl
  omega
/-- The document's heap stays, where its blocks do. -/
theorem DocAt.kp {X : List Nat} {w w' : World} {hb : Nat} {size next : Int} {D : Doc} {mp : Option Nat} {q : Int → Option Addr} {ks : List Int} (h : DocAt w hb size next D mp q ks) (hk : Kp X w w') (h1 : hb ∉ X) (h2 : ∀ k, mp = some k → k ∉ X) (h3 : ∀ b t a, D b = some t → q b = some a → a.block ∉ X) : DocAt w' hb size next D mp q ks := by
  refine ⟨(hk.block hb (Array.getElem?_eq_some_iff.1 h.box).1 h1).trans h.box, ?_, h.nd, h.keys, fun b t hb => ?_⟩
  · rcases h.map with h | ⟨mb, e, hm⟩
    · exact Or.inl h
    · exact Or.inr ⟨mb, e, hm.kp hk (h2 mb e)⟩
  · obtain ⟨k1, k2, k3⟩ := h.rows b t hb
    exact ⟨k1.kp hk (fun a ha => h3 b t a hb ha), k2, k3⟩
/-- Blocks of the program's heap are none of the document's. -/
theorem Jt.docOff {B : Nat} {w : World} {wb hp hd base : Nat} {cells : Int} {S : Nat} {first : Int} {v : Value} {ts : List Th} {vp : Value} {ps : List Cl} {vq : Value} {qs : List Cl} {next : Int} {D : Doc} {mp : Option Nat} {q : Int → Option Addr} {ks : List Int} {R : Int → Int → Prop} (h : Jt B w wb hp hd base cells S first v ts vp ps vq qs next D mp q ks R) {k : Nat} (hk : k = hp ∨ v.ownBlock = some k ∨ vp.ownBlock = some k ∨ w.heap.size ≤ k) : k ≠ hd ∧ mp ≠ some k ∧ (∀ b t a, D b = some t → q b = some a → a.block ≠ k) ∧ k ≠ wb ∧ vq.ownBlock ≠ some k := by
  have hob : (∃ a t, w.heap[k]? = some (.cells a t) ∧ (t = 43 ∨ t = 79 ∨ (t = 50 ∧ vp.ownBlock = some k))) ∨ w.heap.size ≤ k := by
    rcases hk with rfl | hk | hk | hk
    · exact Or.inl ⟨_, _, h.hh.box, Or.inl rfl⟩
    · obtain ⟨cur, hc⟩ := h.hh.own.obj hk
      exact Or.inl ⟨_, _, hc, Or.inr (Or.inl rfl)⟩
    · obtain ⟨cur, hc⟩ := h.ms.p.obj hk
      exact Or.inl ⟨_, _, hc, Or.inr (Or.inr ⟨rfl, hk⟩)⟩
    · exact Or.inr hk
  have hmd : ∀ mb, mp = some mb → ∃ n F, MapAt w mb n F := fun mb e => by
    rcases h.dc.map with ⟨e2, _⟩ | ⟨mb2, e2, hm⟩
    · rw [e2] at e
      cases e
    · rw [e2] at e
      cases e
      exact ⟨_, _, hm⟩
  rcases hob with ⟨a, t, ha, ht⟩ | hge
  · refine ⟨fun e => ?_, fun e => ?_, fun b u d hb hq e => ?_, fun e => ?_, fun e => ?_⟩
    · rw [e, h.dc.box] at ha
      simp only [Option.some.injEq, Obj.cells.injEq] at ha
      rcases ht with rfl | rfl | ⟨rfl, _⟩ <;> exact absurd ha.2.1 (by decide)
    · obtain ⟨n, F, hm⟩ := hmd k e
      obtain ⟨Dm, ⟨es, clock, h1, h2⟩, h3⟩ := hm
      rw [ha] at h1
      cases h1
    · obtain ⟨_, h2, _, cur, h4⟩ := h.qr b u d hb hq
      rw [e, ha] at h4
      simp only [Option.some.injEq, Obj.cells.injEq] at h4
      rcases ht with rfl | rfl | ⟨rfl, h5⟩
      · exact absurd h4.2.1 (by decide)
      · exact absurd h4.2.1 (by decide)
      · exact h2 (e ▸ h5)
    · rw [e, h.ms.box] at ha
      simp only [Option.some.injEq, Obj.cells.injEq] at ha
      rcases ht with rfl | rfl | ⟨rfl, _⟩ <;> exact absurd ha.2.1 (by decide)
    · obtain ⟨cur, hc⟩ := h.ms.q.obj e
      rw [ha] at hc
      simp only [Option.some.injEq, Obj.cells.injEq] at hc
      rcases ht with rfl | rfl | ⟨rfl, h5⟩
      · exact absurd hc.2.1 (by decide)
      · exact absurd hc.2.1 (by decide)
      · exact h.ms.dj k h5 e
  · refine ⟨fun e => ?_, fun e => ?_, fun b u d hb hq e => ?_, fun e => ?_, fun e => ?_⟩
    · have := (Array.getElem?_eq_some_iff.1 h.dc.box).1
      omega
    · obtain ⟨n, F, hm⟩ := hmd k e
      have := hm.lt
      omega
    · obtain ⟨_, _, _, cur, h4⟩ := h.qr b u d hb hq
      have := (Array.getElem?_eq_some_iff.1 h4).1
      omega
    · have := (Array.getElem?_eq_some_iff.1 h.ms.box).1
      omega
    · have := (h.ms.q.block k e).2
      omega
end Go.Proofs.Ytfeopoamednidaa
