/-
  The layer heap: one pair more (the function within alike), where the two sides go together.
-/
import Derived.Test.YtfeopoamednidaaH8
namespace Go.Proofs.Ytfeopoamednidaa
open Go.RowKit Go.Deep
/-- What alike keeps in memory. -/
structure PS (w : World) (tb kb db tm km base B : Nat) (v : Value) (T : Prs) : Prop where
  tob : w.heap[tb]? = some (.cells #[.map (some tm)] 58)
  back : w.heap[kb]? = some (.cells #[.map (some km)] 58)
  todo : w.heap[db]? = some (.cells #[v] 59)
  mto : MapAt w tm T.length (toF T)
  mback : MapAt w km T.length (backF T)
  own : OwnP w base v T
  mne : tm ≠ km
  lt : tb < base ∧ kb < base ∧ db < base ∧ tm < base ∧ km < base
  ge : B ≤ db ∧ B ≤ tm ∧ B ≤ km
  le : base ≤ w.heap.size
theorem OwnP.block {w : World} {base : Nat} {v : Value} {l : Prs} (h : OwnP w base v l) : ∀ k, v.ownBlock = some k → base ≤ k ∧ k < w.heap.size := by
  intro k hk
  rcases h.2 with ⟨rfl, h0⟩ | ⟨g, cap, cur, rfl, h1, h2, _⟩
  · cases hk
  · simp [Value.ownBlock] at hk
    subst hk
    exact ⟨h1, (Array.getElem?_eq_some_iff.1 h2).1⟩
theorem OwnP.keep {w w' : World} {base : Nat} {v : Value} {l : Prs} (h : OwnP w base v l) (hk : ∀ k, v.ownBlock = some k → w'.heap[k]? = w.heap[k]?) : OwnP w' base v l := by
  obtain ⟨q1, q2⟩ := h
  refine ⟨q1, ?_⟩
  rcases q2 with q2 | ⟨g, cap, cur, qv, qg, qh, qq⟩
  · exact .inl q2
  · exact .inr ⟨g, cap, cur, qv, qg, (hk g (by rw [qv]; rfl)).trans qh, qq⟩
theorem PS.grown {w w' : World} {tb kb db tm km base B : Nat} {v : Value} {T : Prs} (h : PS w tb kb db tm km base B v T) (hk : Kp [] w w') : PS w' tb kb db tm km base B v T :=
  ⟨(hk.block _ (Array.getElem?_eq_some_iff.1 h.tob).1 (by simp)).trans h.tob, (hk.block _ (Array.getElem?_eq_some_iff.1 h.back).1 (by simp)).trans h.back, (hk.block _ (Array.getElem?_eq_some_iff.1 h.todo).1 (by simp)).trans h.todo, h.mto.kp hk (by simp), h.mback.kp hk (by simp), h.own.keep (fun k e => hk.block k (h.own.block k e).2 (by simp)), h.mne, h.lt, h.ge, Nat.le_trans h.le hk.size⟩
theorem map57 : Try.prog.underlying 58 = some (.map 3 3) := by kernel_rfl
theorem zero3 : ∀ w, (zeroValue 3).run Try.prog w = .ok (.int .i64 0) w := fun w => Try.zeroValue3 w
/-- One pair more was stored. -/
theorem PS.more {w : World} {tb kb db tm km base B : Nat} {v : Value} {T : Prs} (h : PS w tb kb db tm km base B v T) {x y : Int} (hx : (Lit.int .i64 x).wf = true) (hy : (Lit.int .i64 y).wf = true) (h1 : toF T x = none) (h2 : backF T y = none) (hl : (T.length + 1) * 16 ≤ 140737488355328) :
    ∃ w3 w4, (Instr.mapUpdate 58 (.map (some tm)) (.int .i64 x) (.int .i64 y)).run Try.prog w = .ok () w3 ∧ (Instr.mapUpdate 58 (.map (some km)) (.int .i64 y) (.int .i64 x)).run Try.prog w3 = .ok () w4 ∧ Hid (Kp [tm] w w3) ∧ Hid (Kp [tm, km] w w4) ∧
    ∃ v' w6, (Builtin.append_ #[59, 59] 59 #[v, .slice (some ⟨w4.heap.size, 0, none⟩) 1 1]).run Try.prog (w4.alloc (.cells #[.int .i64 x, .int .i64 y] 61)) = .ok v' w6 ∧ Hid (w6.heap[db]? = some (.cells #[v] 59)) ∧ Hid (PS (w6.setCell ⟨db, 0, none⟩ v') tb kb db tm km base B v' (T ++ [(x, y)])) ∧ Hid (Below B w (w6.setCell ⟨db, 0, none⟩ v') ∧ Kp ([tm, km] ++ v.ownBlock.toList ++ [db]) w (w6.setCell ⟨db, 0, none⟩ v')) := by
  have hln : T.length < maxLen := by unfold maxLen; omega
  obtain ⟨w3, r3, m3, k3⟩ := h.mto.store map57 hln hx (.int .i64 y)
  rw [h1] at m3
  simp only [Option.isSome_none, Bool.false_eq_true, if_false, toF_snoc h1] at m3
  obtain ⟨w4, r4, m4, k4⟩ := (h.mback.kp k3 (by simpa using h.mne.symm)).store map57 hln hy (.int .i64 x)
  rw [h2] at m4
  simp only [Option.isSome_none, Bool.false_eq_true, if_false, backF_snoc h2] at m4
  have k34 : Kp [tm, km] w w4 := (k3.mono (by simp)).trans (k4.mono (by simp))
  refine ⟨w3, w4, r3, r4, k3, k34, ?_⟩
  have hlt := h.lt
  have hmt : ∀ {b : Nat} {u : Value} {t : TypeId}, w.heap[b]? = some (.cells #[u] t) → b ≠ tm ∧ b ≠ km := fun {b u t} hb => by
    have hc : w.cell? ⟨b, 0, none⟩ = some u := by simp [World.cell?, hb]
    exact ⟨h.mto.ne hc, h.mback.ne hc⟩
  have hbk : ∀ {b : Nat} {u : Value} {t : TypeId}, w.heap[b]? = some (.cells #[u] t) → w4.heap[b]? = some (.cells #[u] t) := fun {b u t} hb => (k34.block b (Array.getElem?_eq_some_iff.1 hb).1 (by simpa using hmt hb)).trans hb
  have ho4 : OwnP w4 base v T := h.own.keep (fun k e => k34.block k (h.own.block k e).2 (by have := (h.own.block k e).1; simp; omega))
  have ka : Kp [] w4 (w4.alloc (.cells #[.int .i64 x, .int .i64 y] 61)) := Kp.alloc _ _ _
  have ho5 : OwnP (w4.alloc (.cells #[.int .i64 x, .int .i64 y] 61)) base v T := ho4.keep (fun k e => ka.block k (ho4.block k e).2 (by simp))
  have hle4 : base ≤ w4.heap.size := Nat.le_trans h.le k34.size
  obtain ⟨v', w6, r6, ho6, hg6, hv6⟩ := run_append_pair ho5 x y (alloc_get w4 (.cells #[.int .i64 x, .int .i64 y] 61)) hl (Nat.le_trans hle4 ka.size) 58
  have k6 : Kp v.ownBlock.toList (w4.alloc (.cells #[.int .i64 x, .int .i64 y] 61)) w6 := Kp.of_grown hg6 (by intro k hk; simp [hk])
  have k46 : Kp v.ownBlock.toList w4 w6 := (ka.mono (by simp)).trans k6
  have hlow : ∀ b, b < base → b ∉ v.ownBlock.toList := fun b hb hx => by
    have := (h.own.block b (by simpa using hx)).1
    omega
  have hbk6 : ∀ {b : Nat} {u : Value} {t : TypeId}, b < base → w.heap[b]? = some (.cells #[u] t) → w6.heap[b]? = some (.cells #[u] t) := fun {b u t} hb hw => (k46.block b (by omega) (hlow b hb)).trans (hbk hw)
  have hset : Kp [db] w6 (w6.setCell ⟨db, 0, none⟩ v') := Kp.setCell _ _ (by simp) _
  have hdb6 := hbk6 hlt.2.2.1 h.todo
  refine ⟨v', w6, r6, hdb6, ⟨?_, ?_, ?_, ?_, ?_, ?_, h.mne, h.lt, h.ge, Nat.le_trans hle4 (Nat.le_trans k46.size hset.size)⟩, ?_⟩
  · have h6 := hbk6 hlt.1 h.tob
    refine (hset.block tb (Array.getElem?_eq_some_iff.1 h6).1 ?_).trans h6
    simp
    rintro rfl
    have := h.tob
    rw [h.todo] at this
    cases this
  · have h6 := hbk6 hlt.2.1 h.back
    refine (hset.block kb (Array.getElem?_eq_some_iff.1 h6).1 ?_).trans h6
    simp
    rintro rfl
    have := h.back
    rw [h.todo] at this
    cases this
  · simp [World.setCell, Array.getElem?_modify, hdb6]
  · have := ((m3.kp k4 (by simpa using h.mne)).kp k46 (hlow tm (by omega))).kp hset (by simpa using (hmt h.todo).1.symm)
    simpa using this
  · have := (m4.kp k46 (hlow km (by omega))).kp hset (by simpa using (hmt h.todo).2.symm)
    simpa using this
  · exact ho6.keep (fun k e => hset.block k (ho6.block k e).2 (by have := (ho6.block k e).1; simp; omega))
  · have hge := h.ge
    have hB : B ≤ base := by omega
    have hall : Kp ([tm, km] ++ v.ownBlock.toList ++ [db]) w (w6.setCell ⟨db, 0, none⟩ v') := ((k34.mono (by simp)).trans (k46.mono (by simp; exact fun a e => Or.inr (Or.inr (Or.inl e))))).trans (hset.mono (by simp))
    refine ⟨hall.below (by have := h.le; omega) ?_, hall⟩
    intro z hz
    simp at hz
    rcases hz with rfl | rfl | hz | rfl
    · omega
    · omega
    · have := (h.own.block z hz).1
      omega
    · omega
inductive PairPost (w : World) (R : Int → Int → Prop) (tb kb db tm km base B : Nat) (v : Value) (T : Prs) (a b : Cl) (e : Ending) (w' : World) : Prop
  | mk (T2 : Prs) (v' : Value) (he : e = .returned (.bool true)) (hs : PS w' tb kb db tm km base B v' (T ++ T2)) (hin : a.p = true → (a.n, b.n) ∈ T ++ T2) (hR : ∀ p ∈ T ++ T2, R p.1 p.2) (hnd : (T ++ T2).Nodup) (hb : Below B w w') (hk : Kp ([tm, km] ++ v.ownBlock.toList ++ [db]) w w') : PairPost w R tb kb db tm km base B v T a b e w'
section
set_option maxHeartbeats 8000000
set_option maxRecDepth 100000
theorem pair_any (w : World) (R : Int → Int → Prop) (hR : OneOne R) (tb kb db tm km base B : Nat) (v : Value) (T : Prs) (hS : PS w tb kb db tm km base B v T) (hB : B ≤ w.heap.size) (hT : ∀ p ∈ T, R p.1 p.2) (hnd : T.Nodup) (hl : (T.length + 1) * 16 ≤ 140737488355328) (a b : Cl) (hwa : wfC a) (hwb : wfC b) (hab : a.p = b.p ∧ (a.p = false → a.n = b.n) ∧ (a.p = true → R a.n b.n)) :
    Calls Try.prog 16 #[a.val, b.val, .pointer (some ⟨tb, 0, none⟩), .pointer (some ⟨kb, 0, none⟩), .pointer (some ⟨db, 0, none⟩)] w fun e w' => PairPost w R tb kb db tm km base B v T a b e w' := by
  obtain ⟨ap, an⟩ := a
  obtain ⟨bp, bn⟩ := b
  obtain ⟨h1, h2, h3⟩ := hab
  simp only at h1 h2 h3
  subst h1
  simp only [Cl.val]
  have hkp : Kp [] w ((w.alloc (.cells #[.bool ap, .int .i64 an] 50)).alloc (.cells #[.bool ap, .int .i64 bn] 50)) := (Kp.alloc _ _ _).trans (Kp.alloc _ _ _)
  have HB2 : Hid (Below B w ((w.alloc (.cells #[.bool ap, .int .i64 an] 50)).alloc (.cells #[.bool ap, .int .i64 bn] 50))) := hkp.below hB (by simp)
  cases ap with
  | false =>
    obtain rfl := h2 rfl
    have Q : Hid (PairPost w R tb kb db tm km base B v T ⟨false, an⟩ ⟨false, an⟩ (.returned (.bool true)) ((w.alloc (.cells #[.bool false, .int .i64 an] 50)).alloc (.cells #[.bool false, .int .i64 an] 50))) := PairPost.mk [] v rfl (by simpa using hS.grown ((Kp.alloc _ _ _).trans (Kp.alloc _ _ _))) (fun h => by cases h) (by simpa using hT) (by simpa using hnd) HB2.out (Kp.mono ((Kp.alloc [] _ _).trans (Kp.alloc [] _ _)) (by simp))
    clear hS hT hnd hR
    go_enter Try.func16, Try.ntmps16
    go_wp2
    exact bodyPost_ret (by simp [results, Try.results16, go_sem]) rfl Q.out
  | true =>
    have hS2 := hS.grown hkp
    have hct : ((w.alloc (.cells #[.bool true, .int .i64 an] 50)).alloc (.cells #[.bool true, .int .i64 bn] 50)).cell? ⟨tb, 0, none⟩ = some (.map (some tm)) := by simp only [World.cell?, hS2.tob]; rfl
    have hck : ((w.alloc (.cells #[.bool true, .int .i64 an] 50)).alloc (.cells #[.bool true, .int .i64 bn] 50)).cell? ⟨kb, 0, none⟩ = some (.map (some km)) := by simp only [World.cell?, hS2.back]; rfl
    have hlt := hS.lt
    have hle := hS.le
    have htl : tb < w.heap.size := by omega
    have hkl : kb < w.heap.size := by omega
    have hl1 := hS2.mto.lookOk map57 zero3 hwa
    have hl2 := hS2.mback.lookOk map57 zero3 hwb
    simp only at hl1 hl2
    have hct0 : w.cell? ⟨tb, 0, none⟩ = some (.map (some tm)) := by simp only [World.cell?, hS.tob]; rfl
    have hck0 : w.cell? ⟨kb, 0, none⟩ = some (.map (some km)) := by simp only [World.cell?, hS.back]; rfl
    by_cases hin : (an, bn) ∈ T
    · rw [toF_in hR hT hin] at hl1
      rw [backF_in hR hT hin] at hl2
      simp only [Option.getD_some, Option.isSome_some] at hl1 hl2
      have Q : Hid (PairPost w R tb kb db tm km base B v T ⟨true, an⟩ ⟨true, bn⟩ (.returned (.bool true)) ((w.alloc (.cells #[.bool true, .int .i64 an] 50)).alloc (.cells #[.bool true, .int .i64 bn] 50))) := PairPost.mk [] v rfl (by simpa using hS2) (fun _ => by simpa using hin) (by simpa using hT) (by simpa using hnd) HB2.out (Kp.mono ((Kp.alloc [] _ _).trans (Kp.alloc [] _ _)) (by simp))
      clear hS hS2 hT hnd hR hkp
      go_enter Try.func16, Try.ntmps16
      go_wp2
      exact bodyPost_ret (by simp [results, Try.results16, go_sem]) rfl Q.out
    · have e1 := toF_out hR hT (h3 rfl) hin
      have e2 := backF_out hR hT (h3 rfl) hin
      rw [e1] at hl1
      rw [e2] at hl2
      simp only [Option.getD_none, Option.isSome_none] at hl1 hl2
      obtain ⟨w3, w4, r3, r4, K3, K4, v', w6, r6, D6, S6, B6⟩ := hS2.more hwa hwb e1 e2 hl
      simp only at r3 r4 r6
      have hA : ((w.alloc (.cells #[.bool true, .int .i64 an] 50)).alloc (.cells #[.bool true, .int .i64 bn] 50)).heap[w.heap.size]? = some (.cells #[.bool true, .int .i64 an] 50) := ((Kp.alloc [] (w.alloc (.cells #[.bool true, .int .i64 an] 50)) _).block _ (by simp) (by simp)).trans (alloc_get _ _)
      have hBb : ((w.alloc (.cells #[.bool true, .int .i64 an] 50)).alloc (.cells #[.bool true, .int .i64 bn] 50)).heap[w.heap.size + 1]? = some (.cells #[.bool true, .int .i64 bn] 50) := by
        rw [show w.heap.size + 1 = (w.alloc (.cells #[.bool true, .int .i64 an] 50)).heap.size from by simp]
        exact alloc_get _ _
      have hlA : w.heap.size < ((w.alloc (.cells #[.bool true, .int .i64 an] 50)).alloc (.cells #[.bool true, .int .i64 bn] 50)).heap.size := (Array.getElem?_eq_some_iff.1 hA).1
      have hlB : w.heap.size + 1 < ((w.alloc (.cells #[.bool true, .int .i64 an] 50)).alloc (.cells #[.bool true, .int .i64 bn] 50)).heap.size := (Array.getElem?_eq_some_iff.1 hBb).1
      have a3 := (K3.out.block _ hlA (by simp; omega)).trans hA
      have b3 := (K3.out.block _ hlB (by simp; omega)).trans hBb
      have a4 := (K4.out.block _ hlA (by simp; omega)).trans hA
      have b4 := (K4.out.block _ hlB (by simp; omega)).trans hBb
      have kc3 : w3.cell? ⟨kb, 0, none⟩ = some (.map (some km)) := K3.out.cell hck (by simpa using (hS2.mto.ne hck))
      have hd0 : ((w.alloc (.cells #[.bool true, .int .i64 an] 50)).alloc (.cells #[.bool true, .int .i64 bn] 50)).cell? ⟨db, 0, none⟩ = some v := by simp only [World.cell?, hS2.todo]; rfl
      have dc4 : w4.cell? ⟨db, 0, none⟩ = some v := K4.out.cell hd0 (by simp; exact ⟨hS2.mto.ne hd0, hS2.mback.ne hd0⟩)
      have c1 : w3.cell? ⟨w.heap.size, 1, none⟩ = some (.int .i64 an) := by simp only [World.cell?, a3]; rfl
      have c2 : w3.cell? ⟨w.heap.size + 1, 1, none⟩ = some (.int .i64 bn) := by simp only [World.cell?, b3]; rfl
      have c3 : w4.cell? ⟨w.heap.size, 1, none⟩ = some (.int .i64 an) := by simp only [World.cell?, a4]; rfl
      have c4 : w4.cell? ⟨w.heap.size + 1, 1, none⟩ = some (.int .i64 bn) := by simp only [World.cell?, b4]; rfl
      have s3 : w.heap.size + 1 < w3.heap.size := (Array.getElem?_eq_some_iff.1 b3).1
      have s4 : w.heap.size + 1 < w4.heap.size := (Array.getElem?_eq_some_iff.1 b4).1
      have s3' : w.heap.size < w3.heap.size := by omega
      have s4' : w.heap.size < w4.heap.size := by omega
      have k3' : kb < w3.heap.size := by omega
      have k4' : db < w4.heap.size := by omega
      have d6 : w6.cell? ⟨db, 0, none⟩ = some v := by simp only [World.cell?, D6.out]; rfl
      have d6' : db < w6.heap.size := (Array.getElem?_eq_some_iff.1 D6.out).1
      have f6 : w6.frozen? ⟨db, 0, none⟩ = false := by simp [World.frozen?, D6.out]
      have Q : Hid (PairPost w R tb kb db tm km base B v T ⟨true, an⟩ ⟨true, bn⟩ (.returned (.bool true)) (w6.setCell ⟨db, 0, none⟩ v')) := PairPost.mk [(an, bn)] v' rfl S6.out (fun _ => by simp) (fun p hp => by
        rcases List.mem_append.1 hp with hp | hp
        · exact hT p hp
        · simp at hp; subst hp; exact h3 rfl) (List.nodup_append.2 ⟨hnd, by simp, by intro x hx y hy; simp at hy; subst hy; exact fun e => hin (e ▸ hx)⟩) (HB2.out.trans (B6.out.1.mono (by omega))) (Kp.trans (hkp.mono (by simp)) B6.out.2)
      obtain ⟨q, cap, rfl, _⟩ := hS.own.at
      obtain ⟨q', cap', rfl, _⟩ := S6.out.own.at
      simp only [List.length_append, List.length_cons, List.length_nil, Nat.zero_add] at Q r6
      clear hS hS2 hT hnd hR hkp hA hBb a3 b3 a4 b4 K3 K4 D6 S6 B6 HB2 hd0 e1 e2 hlA hlB
      go_enter Try.func16, Try.ntmps16
      go_wp2_with (at_builtin; refine Lib.wpList_append_run _ rfl (Operand.tmp 69) (Operand.tmp 75) 59 59 rfl _ _ rfl rfl _ _ r6 ?_)
      exact bodyPost_ret (by simp [results, Try.results16, go_sem]) rfl Q.out
end
end Go.Proofs.Ytfeopoamednidaa
