/-
  The layer heap: the document's heap in memory; how many cells are reached (Live).
-/
import Derived.Test.YtfeopoamednidaaHA
import Derived.Test.YtfeopoamednidaaReg
namespace Go.Proofs.Ytfeopoamednidaa
open Go.RowKit Go.Deep
def thV (q : Option Addr) (t : Th) : Value := .agg #[.int .i64 t.kind, .int .i64 t.tag, .slice q t.fs.length t.fs.length]
def wfC (c : Cl) : Prop := (Lit.int .i64 c.n).wf = true
/-- The document's heap lies in memory. -/
structure DocAt (w : World) (hb : Nat) (size next : Int) (D : Doc) (mp : Option Nat) (q : Int → Option Addr) (ks : List Int) : Prop where
  box : w.heap[hb]? = some (.cells #[.int .i64 size, .map mp, .int .i64 next] 31)
  map : (mp = none ∧ ks = []) ∨ ∃ mb, mp = some mb ∧ MapAt w mb ks.length (fun b => (D b).map (thV (q b)))
  nd : ks.Nodup
  keys : ∀ b, (D b).isSome = true ↔ b ∈ ks
  rows : ∀ b t, D b = some t → RowC w (q b) t.fs ∧ (q b = none → t.fs.length = 0 ∧ t.fs.length = 0) ∧ ∀ c ∈ t.fs, wfC c
theorem map29 : Try.prog.underlying 29 = some (.map 3 52) := by kernel_rfl
theorem zero51 : ∀ w, (zeroValue 52).run Try.prog w = .ok (.agg #[.int .i64 0, .int .i64 0, .slice none 0 0]) w := fun w => Try.zeroValue52 w
def keptV (D : Doc) (q : Int → Option Addr) (V : List Int) : Int → Option Value := fun b => (keptD D V b).map (thV (q b))
theorem keptV_snoc {D : Doc} {q : Int → Option Addr} {V : List Int} {b : Int} {t : Th} (ht : D b = some t) : upd (keptV D q V) b (some (thV (q b) t)) = keptV D q (V ++ [b]) := by
  funext y
  by_cases hy : y = b
  · subst hy
    rw [upd_same]
    unfold keptV keptD
    rw [if_pos (by simp), ht]
    rfl
  · rw [upd_other _ _ hy]
    unfold keptV keptD
    simp [hy]
inductive LivePost (w : World) (hb : Nat) (size next : Int) (D : Doc) (q : Int → Option Addr) (rs : List Cl) (e : Ending) (w' : World) : Prop
  | mk (V : List Int) (mb : Nat) (he : e = .returned (.int .i64 (cellsT D V : Int))) (hV : ∀ b, b ∈ V ↔ Reach D rs b) (hd : DocAt w' hb size next (keptD D V) (some mb) q V) (hk : Kp [hb] w w') (hm : w.heap.size ≤ mb) : LivePost w hb size next D q rs e w'
theorem owns_below {w w' : World} {base : Nat} {e : TypeId} {size : Nat} {v : Value} {n : Nat} {xs : List Value} (h : w.ownsRow base e size v n xs) (hb : Below w.heap.size w w') : w'.ownsRow base e size v n xs := by
  obtain ⟨q1, q2⟩ := h
  refine ⟨q1, ?_⟩
  rcases q2 with q2 | ⟨g, cap, cur, qv, qg, qh, qq⟩
  · exact .inl q2
  · exact .inr ⟨g, cap, cur, qv, qg, (hb.block g (Array.getElem?_eq_some_iff.1 qh).1).trans qh, qq⟩
theorem owns_kp {X : List Nat} {w w' : World} {base : Nat} {e : TypeId} {size : Nat} {v : Value} {n : Nat} {xs : List Value} (h : w.ownsRow base e size v n xs) (hk : Kp X w w') (hX : ∀ x ∈ X, x < base) : w'.ownsRow base e size v n xs := by
  obtain ⟨q1, q2⟩ := h
  refine ⟨q1, ?_⟩
  rcases q2 with q2 | ⟨g, cap, cur, qv, qg, qh, qq⟩
  · exact .inl q2
  · exact .inr ⟨g, cap, cur, qv, qg, (hk.block g (Array.getElem?_eq_some_iff.1 qh).1 (fun hx => by have := hX g hx; omega)).trans qh, qq⟩
theorem owns_ge {w : World} {base : Nat} {e : TypeId} {size : Nat} {b o n cap m : Nat} {xs : List Value} (h : w.ownsRow base e size (.slice (some ⟨b, o, none⟩) n cap) m xs) : base ≤ b := by
  rcases h.2 with ⟨h, _⟩ | ⟨g, c, cur, h, h1, _⟩
  · cases h
  · cases h
    exact h1
theorem RowC.ne_box {w : World} {p : Option Addr} {l : List Cl} (h : RowC w p l) (hl : l ≠ []) {hb : Nat} {s n : Int} {m : Option Nat} (hx : w.heap[hb]? = some (.cells #[.int .i64 s, .map m, .int .i64 n] 31)) : ∀ b : Addr, p = some b → b.block ≠ hb := fun b hp e => by
  obtain ⟨b', o, h1, h2, _⟩ := h.get 0 (List.length_pos_iff.2 hl)
  rw [hp] at h1
  cases h1
  subst e
  simp only [World.cell?, hx, Nat.zero_mul, Nat.add_zero] at h2
  match o, h2 with
  | 0, h2 => simp at h2
  | 1, h2 => simp at h2
  | 2, h2 => simp at h2
  | k + 3, h2 => simp at h2
theorem live_post {w wr : World} {hb : Nat} {size next : Int} {D : Doc} {mp : Option Nat} {q : Int → Option Addr} {ks : List Int} (hD : DocAt w hb size next D mp q ks) {rs : List Cl} {V : List Int} (k2 : MapAt wr w.heap.size V.length (keptV D q V)) (k3 : Below w.heap.size w wr) (k4 : V.Nodup) (hall : ∀ b, b ∈ V ↔ Reach D rs b) (hbx : wr.heap[hb]? = some (.cells #[.int .i64 size, .map mp, .int .i64 next] 31)) (hk5 : ∀ b ∈ V, (D b).isSome = true) :
    LivePost w hb size next D q rs (.returned (.int .i64 (cellsT D V : Int))) (wr.setCell ⟨hb, 1, none⟩ (.map (some w.heap.size))) := by
  have hlt : hb < w.heap.size := (Array.getElem?_eq_some_iff.1 hD.box).1
  have hset : Kp [hb] wr (wr.setCell ⟨hb, 1, none⟩ (.map (some w.heap.size))) := Kp.setCell wr _ (by simp) _
  refine LivePost.mk V w.heap.size rfl hall ⟨?_, Or.inr ⟨_, rfl, k2.kp hset (by simp; omega)⟩, k4, ?_, ?_⟩ (Kp.trans (Kp.of_below k3) hset) (Nat.le_refl _)
  · simp [World.setCell, Array.getElem?_modify, hbx]
  · intro b
    unfold keptD
    by_cases hb : b ∈ V
    · rw [if_pos hb]
      exact ⟨fun _ => hb, fun _ => hk5 b hb⟩
    · rw [if_neg hb]
      exact ⟨fun h => (by cases h), fun h => absurd h hb⟩
  · intro b t hbt
    have hbt' : D b = some t := by
      unfold keptD at hbt
      split at hbt
      · exact hbt
      · cases hbt
    obtain ⟨h1, h2, h3⟩ := hD.rows b t hbt'
    refine ⟨?_, h2, h3⟩
    have hr := h1.below k3
    exact hr.block (fun hl a ha => hset.block _ (hr.lt hl a ha) (by simpa using hr.ne_box hl hbx a ha))
theorem alloc_get (w : World) (o : Obj) : (w.alloc o).heap[w.heap.size]? = some o := by
  show (w.heap.push o)[w.heap.size]? = some o
  simp
section
set_option maxHeartbeats 8000000
set_option maxRecDepth 100000
theorem live_any (w : World) (hb : Nat) (size next : Int) (D : Doc) (mp : Option Nat) (q : Int → Option Addr) (ks : List Int) (hD : DocAt w hb size next D mp q ks) (rs : List Cl) (p : Option Addr) (cap : Nat) (hr : RowC w p rs) (hz : p = none → rs.length = 0 ∧ cap = 0) (hwr : ∀ c ∈ rs, wfC c)
    (hg : ∀ b, Reach D rs b → (D b).isSome = true) (hsz : (rs.length + fieldsT D ks) * 16 ≤ 140737488355328) (hks : ks.length ≤ 1000000000) :
    Calls Try.prog 11 #[.pointer (some ⟨hb, 0, none⟩), .slice p rs.length cap] w fun e w' => LivePost w hb size next D q rs e w' := by
  have HD : Hid (DocAt w hb size next D mp q ks) := hD
  have Hg : Hid (∀ b, Reach D rs b → (D b).isSome = true) := hg
  have Hwr : Hid (∀ c ∈ rs, wfC c) := hwr
  have Hz : Hid (p = none → rs.length = 0 ∧ cap = 0) := hz
  have hm0 := MapAt.made w
  have hk0 : Below w.heap.size w (w.alloc (.map #[] 0)) := (Below.refl _ _).alloc (Nat.le_refl _) _
  have Hr0 : Hid (RowC (w.alloc (.map #[] 0)) p rs) := hr.below hk0
  have hown0 : OwnC (w.alloc (.map #[] 0)) (w.heap.size + 1) (.slice none 0 0) [] := World.ownsRow_nil _ _ _ _
  have hsz0 : w.heap.size + 1 ≤ (w.alloc (.map #[] 0)).heap.size := by simp
  have hlen0 : (([] : List Cl).length + rs.length) * 16 ≤ 140737488355328 := by simp; omega
  clear hD hg hwr hz hr
  have hmm := @run_makeMap Try.prog
  go_enter Try.func11, Try.ntmps11
  go_wp2_with (at_builtin; refine wpList_append_cells rfl _ _ rfl hown0 Hr0.out Hz.out hlen0 hsz0 rfl rfl ?_)
  intro v1 w1 ho1 hg1 hat1
  have hb1 : Below (w.heap.size + 1) (w.alloc (.map #[] 0)) w1 := by
    have hg := hg1.out
    exact ⟨hg.os, hg.tape, hg.output, hg.size, fun k hk => hg.block k (by simpa using hk) (by simp [Value.ownBlock])⟩
  have Hm1 : Hid (MapAt w1 w.heap.size 0 (keptV D q [])) := by
    have h1 : MapAt w1 w.heap.size 0 (fun _ => none) := hm0.kp (Kp.of_grown (X := []) hg1.out (by simp [Value.ownBlock])) (by simp)
    have h2 : keptV D q [] = fun _ => none := by funext y; simp [keptV, keptD]
    unfold Hid
    rw [h2]
    exact h1
  have Hw1 : Hid (Below w.heap.size w w1) := hk0.trans (hb1.mono (by omega))
  obtain ⟨q1, c1, hv1, _⟩ := OwnC.at ho1.out (by unfold maxLen; omega)
  subst hv1
  clear hm0 hk0 hown0 hsz0 hlen0 Hr0 hg1 hat1 hb1
  go_wp2_with fail
  go_loopg [6, 7, 8] (rs.length + fieldsT D ks) (fun g tv nv iv wr => ∃ (i : Nat) (V : List Int) (qq : Option Addr) (c : Nat), tv = .slice qq (todoL D rs V).length c ∧ nv = .int .i64 (cellsT D V : Int) ∧ iv = .int .i64 i ∧ i ≤ (todoL D rs V).length ∧ g = rs.length + fieldsT D ks - i ∧ Hid (OwnC wr (w.heap.size + 1) (.slice qq (todoL D rs V).length c) (todoL D rs V) ∧ MapAt wr w.heap.size V.length (keptV D q V) ∧ Below w.heap.size w wr ∧ V.Nodup ∧ (∀ b ∈ V, Reach D rs b ∧ (D b).isSome = true) ∧ ∀ x, x ∈ (todoL D rs V).take i → x.p = true → x.n ∈ V))
  case atStart => exact ⟨0, [], q1, c1, by simp [todoL], by simp [cellsT], rfl, by omega, by omega, by simpa [todoL] using ho1.out, Hm1.out, Hw1.out, by simp, (fun b hb => by cases hb), (fun x hx => by simp at hx)⟩
  case round =>
    obtain ⟨i, V, qq, c, rfl, rfl, rfl, hi1, rfl, HL⟩ := hrel
    obtain ⟨k1, k2, k3, k4, k5, k6⟩ := HL.out
    clear HL ho1 Hm1 Hw1
    have hVk : ∀ b ∈ V, b ∈ ks := fun b hb => (HD.out.keys b).1 (k5 b hb).2
    have hfl : fieldsT D V ≤ fieldsT D ks := fieldsT_sub D V ks k4 hVk
    have hVl : V.length ≤ ks.length := len_sub V ks k4 hVk
    have htl := todoL_len D rs V
    by_cases hi : i < (todoL D rs V).length
    · have hi' : (i : Int) < (todoL D rs V).length := by omega
      obtain ⟨q', c', hqe, hqc, hrow⟩ := k1.at (by unfold maxLen; omega)
      cases hqe
      obtain ⟨b, o, rfl, hc0, hc1⟩ := hrow.get i hi
      have hwfx : wfC ((todoL D rs V)[i]'hi) := by
        have hin : (todoL D rs V)[i]'hi ∈ todoL D rs V := List.getElem_mem hi
        rcases List.mem_append.1 hin with h | h
        · exact Hwr.out _ h
        · obtain ⟨a, ha, hx⟩ := List.mem_flatMap.1 h
          obtain ⟨t, ht⟩ := Option.isSome_iff_exists.1 (k5 a ha).2
          exact (HD.out.rows a t ht).2.2 _ (by unfold fsOf at hx; rw [ht] at hx; exact hx)
      have hinx : (todoL D rs V)[i]'hi ∈ todoL D rs V := List.getElem_mem hi
      have htk : (todoL D rs V).take (i + 1) = (todoL D rs V).take i ++ [(todoL D rs V)[i]'hi] := List.take_succ_eq_append_getElem hi
      generalize hxx : (todoL D rs V)[i]'hi = x at *
      have hlk := k2.lookOk map29 zero51 hwfx
      have hib : i < rs.length + fieldsT D ks := by omega
      have Htl : Hid ((todoL D rs V).length = rs.length + fieldsT D V) := htl
      clear htl
      obtain ⟨xp, xn⟩ := x
      simp only at hc0 hc1 hlk
      have hbl := World.block_lt_of_cell? _ _ hc0
      have hwN : IntKind.i64.wrap ((i : Int) + 1) = (i : Int) + 1 := by rw [IntKind.wrap_i64]; omega
      by_cases hin : xn ∈ V
      · obtain ⟨t, ht⟩ := Option.isSome_iff_exists.1 (k5 xn hin).2
        have hkv : keptV D q V xn = some (thV (q xn) t) := by unfold keptV keptD; rw [if_pos hin, ht]; rfl
        rw [hkv] at hlk
        simp only [Option.getD_some, Option.isSome_some, thV] at hlk
        clear hkv
        cases xp with
        | false =>
          have Q : Hid (OwnC (wr.alloc (.cells #[.int .i64 t.kind, .int .i64 t.tag, .slice (q xn) t.fs.length t.fs.length] 52)) (w.heap.size + 1) (.slice (some ⟨b, o, none⟩) (todoL D rs V).length c) (todoL D rs V) ∧ MapAt (wr.alloc (.cells #[.int .i64 t.kind, .int .i64 t.tag, .slice (q xn) t.fs.length t.fs.length] 52)) w.heap.size V.length (keptV D q V) ∧ Below w.heap.size w (wr.alloc (.cells #[.int .i64 t.kind, .int .i64 t.tag, .slice (q xn) t.fs.length t.fs.length] 52)) ∧ V.Nodup ∧ (∀ b ∈ V, Reach D rs b ∧ (D b).isSome = true) ∧ ∀ x, x ∈ (todoL D rs V).take (i + 1) → x.p = true → x.n ∈ V) := by
            have hal : Below wr.heap.size wr (wr.alloc (.cells #[.int .i64 t.kind, .int .i64 t.tag, .slice (q xn) t.fs.length t.fs.length] 52)) := (Below.refl _ _).alloc (Nat.le_refl _) _
            refine ⟨owns_below k1 hal, k2.kp (Kp.of_below (X := []) hal) (by simp), k3.trans (hal.mono k3.size), k4, k5, fun y hy hp => ?_⟩
            rw [htk] at hy
            rcases List.mem_append.1 hy with hy | hy
            · exact k6 y hy hp
            · obtain rfl : y = ⟨false, xn⟩ := by simpa using hy
              cases hp
          clear k1 k2 k3 k4 k5 k6 htk hrow hinx hxx hwfx
          go_wp2
          go_roundg (rs.length + fieldsT D ks - (i + 1))
          case measure => omega
          case rel => exact ⟨i + 1, V, some ⟨b, o, none⟩, c, rfl, rfl, by first | rfl | (congr 1; omega) | go_num, by omega, rfl, Q.out⟩
        | true =>
          have Q : Hid (OwnC (wr.alloc (.cells #[.int .i64 t.kind, .int .i64 t.tag, .slice (q xn) t.fs.length t.fs.length] 52)) (w.heap.size + 1) (.slice (some ⟨b, o, none⟩) (todoL D rs V).length c) (todoL D rs V) ∧ MapAt (wr.alloc (.cells #[.int .i64 t.kind, .int .i64 t.tag, .slice (q xn) t.fs.length t.fs.length] 52)) w.heap.size V.length (keptV D q V) ∧ Below w.heap.size w (wr.alloc (.cells #[.int .i64 t.kind, .int .i64 t.tag, .slice (q xn) t.fs.length t.fs.length] 52)) ∧ V.Nodup ∧ (∀ b ∈ V, Reach D rs b ∧ (D b).isSome = true) ∧ ∀ x, x ∈ (todoL D rs V).take (i + 1) → x.p = true → x.n ∈ V) := by
            have hal : Below wr.heap.size wr (wr.alloc (.cells #[.int .i64 t.kind, .int .i64 t.tag, .slice (q xn) t.fs.length t.fs.length] 52)) := (Below.refl _ _).alloc (Nat.le_refl _) _
            refine ⟨owns_below k1 hal, k2.kp (Kp.of_below (X := []) hal) (by simp), k3.trans (hal.mono k3.size), k4, k5, fun y hy hp => ?_⟩
            rw [htk] at hy
            rcases List.mem_append.1 hy with hy | hy
            · exact k6 y hy hp
            · obtain rfl : y = ⟨true, xn⟩ := by simpa using hy
              exact hin
          clear k1 k2 k3 k4 k5 k6 htk hrow hinx hxx hwfx
          go_wp2
          go_roundg (rs.length + fieldsT D ks - (i + 1))
          case measure => omega
          case rel => exact ⟨i + 1, V, some ⟨b, o, none⟩, c, rfl, rfl, by first | rfl | (congr 1; omega) | go_num, by omega, rfl, Q.out⟩
      · have hkv : keptV D q V xn = none := by unfold keptV keptD; rw [if_neg hin]; rfl
        rw [hkv] at hlk
        simp only [Option.getD_none, Option.isSome_none] at hlk
        cases xp with
        | false =>
          have Q : Hid (OwnC (wr.alloc (.cells #[.int .i64 0, .int .i64 0, .slice none 0 0] 52)) (w.heap.size + 1) (.slice (some ⟨b, o, none⟩) (todoL D rs V).length c) (todoL D rs V) ∧ MapAt (wr.alloc (.cells #[.int .i64 0, .int .i64 0, .slice none 0 0] 52)) w.heap.size V.length (keptV D q V) ∧ Below w.heap.size w (wr.alloc (.cells #[.int .i64 0, .int .i64 0, .slice none 0 0] 52)) ∧ V.Nodup ∧ (∀ b ∈ V, Reach D rs b ∧ (D b).isSome = true) ∧ ∀ x, x ∈ (todoL D rs V).take (i + 1) → x.p = true → x.n ∈ V) := by
            have hal : Below wr.heap.size wr (wr.alloc (.cells #[.int .i64 0, .int .i64 0, .slice none 0 0] 52)) := (Below.refl _ _).alloc (Nat.le_refl _) _
            refine ⟨owns_below k1 hal, k2.kp (Kp.of_below (X := []) hal) (by simp), k3.trans (hal.mono k3.size), k4, k5, fun y hy hp => ?_⟩
            rw [htk] at hy
            rcases List.mem_append.1 hy with hy | hy
            · exact k6 y hy hp
            · obtain rfl : y = ⟨false, xn⟩ := by simpa using hy
              cases hp
          clear k1 k2 k3 k4 k5 k6 htk hrow hinx hxx hwfx
          go_wp2
          go_roundg (rs.length + fieldsT D ks - (i + 1))
          case measure => omega
          case rel => exact ⟨i + 1, V, some ⟨b, o, none⟩, c, rfl, rfl, by first | rfl | (congr 1; omega) | go_num, by omega, rfl, Q.out⟩
        | true =>
          have hrx : Reach D rs xn := todoL_reach k5 hinx
          obtain ⟨t, ht⟩ := Option.isSome_iff_exists.1 (Hg.out xn hrx)
          obtain ⟨trow, tnil, twf⟩ := HD.out.rows xn t ht
          have hxk : xn ∈ ks := (HD.out.keys xn).1 (by rw [ht]; rfl)
          obtain ⟨mb, hmp, hmap⟩ : ∃ mb, mp = some mb ∧ MapAt w mb ks.length (fun b => (D b).map (thV (q b))) := by
            rcases HD.out.map with ⟨_, h2⟩ | h
            · rw [h2] at hxk
              cases hxk
            · exact h
          have Hal : Hid (Below wr.heap.size wr (wr.alloc (.cells #[.int .i64 0, .int .i64 0, .slice none 0 0] 52))) := (Below.refl _ _).alloc (Nat.le_refl _) _
          have Hbox : Hid (∀ wx, Below (wr.alloc (.cells #[.int .i64 0, .int .i64 0, .slice none 0 0] 52)).heap.size (wr.alloc (.cells #[.int .i64 0, .int .i64 0, .slice none 0 0] 52)) wx → (wx.cell? ⟨hb, 1, none⟩ = some (.map (some mb)) ∧ hb < wx.heap.size) ∧ wx.cell? ⟨b, o + i * 2 + 1, none⟩ = some (.int .i64 xn) ∧ b < wx.heap.size ∧ (Instr.lookup 29 (.map (some mb)) (.int .i64 xn) false).run Try.prog wx = .ok (.agg #[.int .i64 t.kind, .int .i64 t.tag, .slice (q xn) t.fs.length t.fs.length]) wx) := fun wx hx => by
            have h1 : Below w.heap.size w wx := (k3.trans (Hal.out.mono k3.size)).trans (hx.mono (Nat.le_trans k3.size Hal.out.size))
            have h2 : Below wr.heap.size wr wx := Hal.out.trans (hx.mono Hal.out.size)
            have hbx := HD.out.box
            have hbl2 : hb < w.heap.size := (Array.getElem?_eq_some_iff.1 hbx).1
            have hcell : w.cell? ⟨hb, 1, none⟩ = some (.map (some mb)) := by simp [World.cell?, hbx, hmp]
            have hl2 := (hmap.kp (Kp.of_below (X := []) (by exact (k3.trans (Hal.out.mono k3.size)).trans (hx.mono (Nat.le_trans k3.size Hal.out.size)))) (by simp)).look map29 zero51 hwfx
            simp only [ht, Option.map_some, Option.getD_some, thV] at hl2
            exact ⟨⟨(h1.cell (p := ⟨hb, 1, none⟩) hbl2).trans hcell, Nat.lt_of_lt_of_le hbl2 h1.size⟩, (h2.cell (p := ⟨b, o + i * 2 + 1, none⟩) (World.block_lt_of_cell? _ _ hc1)).trans hc1, Nat.lt_of_lt_of_le hbl h2.size, hl2⟩
          go_upto_region 10 with fail
          generalize (wr.alloc (.cells #[.int .i64 0, .int .i64 0, .slice none 0 0] 52)) = w2 at Hal Hbox ⊢
          clear hc0 hlk
          refine region_any (C := fun wx => Below w2.heap.size w2 wx) (by kernel_rfl) ?_
          refine anyIn_read (i := 0) rfl (by kernel_rfl) (by kernel_rfl) (by kernel_rfl) (fun _ _ _ _ h => h) ?_
          apply Exists.intro
          refine ⟨Or.inl ⟨by rfl, fun wx hwx => ?_⟩, ?_⟩
          (go_simp; first | done | with_reducible rfl)
          refine anyIn_read (i := 1) rfl (by kernel_rfl) (by kernel_rfl) (by kernel_rfl) (fun _ _ _ _ h => h) ?_
          apply Exists.intro
          refine ⟨Or.inl ⟨by rfl, fun wx hwx => ?_⟩, ?_⟩
          (go_simp; first | done | with_reducible rfl)
          refine anyIn_read (i := 2) rfl (by kernel_rfl) (by kernel_rfl) (by kernel_rfl) (fun _ _ _ _ h => h) ?_
          apply Exists.intro
          refine ⟨Or.inl ⟨by rfl, fun wx hwx => ?_⟩, ?_⟩
          (go_simp; first | done | with_reducible rfl)
          refine anyIn_read (i := 3) rfl (by kernel_rfl) (by kernel_rfl) (by kernel_rfl) (fun _ _ _ _ h => h) ?_
          apply Exists.intro
          refine ⟨Or.inl ⟨by rfl, fun wx hwx => ?_⟩, ?_⟩
          (obtain ⟨⟨f0, f1⟩, f2, f3, f4⟩ := Hbox.out wx hwx; go_simp; first | done | with_reducible rfl)
          refine anyIn_read (i := 4) rfl (by kernel_rfl) (by kernel_rfl) (by kernel_rfl) (fun _ _ _ _ h => h) ?_
          apply Exists.intro
          refine ⟨Or.inl ⟨by rfl, fun wx hwx => ?_⟩, ?_⟩
          (go_simp; first | done | with_reducible rfl)
          refine anyIn_read (i := 5) rfl (by kernel_rfl) (by kernel_rfl) (by kernel_rfl) (fun _ _ _ _ h => h) ?_
          apply Exists.intro
          refine ⟨Or.inl ⟨by rfl, fun wx hwx => ?_⟩, ?_⟩
          (go_simp; first | done | with_reducible rfl)
          refine anyIn_read (i := 6) rfl (by kernel_rfl) (by kernel_rfl) (by kernel_rfl) (fun _ _ _ _ h => h) ?_
          apply Exists.intro
          refine ⟨Or.inl ⟨by rfl, fun wx hwx => ?_⟩, ?_⟩
          (obtain ⟨⟨f0, f1⟩, f2, f3, f4⟩ := Hbox.out wx hwx; go_simp; first | done | with_reducible rfl)
          refine anyIn_read (i := 7) rfl (by kernel_rfl) (by kernel_rfl) (by kernel_rfl) (fun _ _ _ _ h => h) ?_
          apply Exists.intro
          refine ⟨Or.inl ⟨by rfl, fun wx hwx => ?_⟩, ?_⟩
          (go_simp; first | done | with_reducible rfl)
          refine anyIn_read (i := 8) rfl (by kernel_rfl) (by kernel_rfl) (by kernel_rfl) (fun _ _ _ _ h => h) ?_
          apply Exists.intro
          refine ⟨Or.inl ⟨by rfl, fun wx hwx => ?_⟩, ?_⟩
          (obtain ⟨⟨f0, f1⟩, f2, f3, f4⟩ := Hbox.out wx hwx; go_simp; first | done | with_reducible rfl)
          refine anyIn_read (i := 9) rfl (by kernel_rfl) (by kernel_rfl) (by kernel_rfl) (fun _ _ _ _ h => h) ?_
          apply Exists.intro
          refine ⟨Or.inl ⟨by rfl, fun wx hwx => ?_⟩, ?_⟩
          (obtain ⟨⟨f0, f1⟩, f2, f3, f4⟩ := Hbox.out wx hwx; go_simp; first | done | with_reducible rfl)
          refine anyIn_one (i := 10) ((Below.refl _ _).drew) rfl (by kernel_rfl) (fun K hK => ?_)
          go_simp
          refine hK _ _ ?_
          clear hK K
          refine anyIn_one (i := 11) (((Below.refl _ _).drew).alloc (Nat.le_refl _) _) rfl (by kernel_rfl) (fun K hK => ?_)
          go_simp
          refine hK _ _ ?_
          clear hK K
          have Hal3 : Hid (Below w2.heap.size w2 (w2.alloc (.cells #[.int .i64 t.kind, .int .i64 t.tag, .slice (q xn) t.fs.length t.fs.length] 52)).drew) := ((Below.refl _ _).alloc (Nat.le_refl _) _).drew
          refine anyIn_done Hal3.out (by kernel_rfl) ?_
          have Hb3 : Hid (((w2.alloc (.cells #[.int .i64 t.kind, .int .i64 t.tag, .slice (q xn) t.fs.length t.fs.length] 52)).drew).heap[w2.heap.size]? = some (.cells #[.int .i64 t.kind, .int .i64 t.tag, .slice (q xn) t.fs.length t.fs.length] 52)) := by
            exact alloc_get w2 _
          generalize (w2.alloc (.cells #[.int .i64 t.kind, .int .i64 t.tag, .slice (q xn) t.fs.length t.fs.length] 52)).drew = w3 at Hal3 Hb3 ⊢
          go_simp
          have HA3 : Hid (Below wr.heap.size wr w3) := Hal.out.trans (Hal3.out.mono Hal.out.size)
          clear Hbox
          have Hbox : Hid (∀ wx, Kp [w.heap.size] w3 wx → (wx.cell? ⟨w2.heap.size, 0, none⟩ = some (.int .i64 t.kind) ∧ wx.cell? ⟨w2.heap.size, 1, none⟩ = some (.int .i64 t.tag) ∧ wx.cell? ⟨w2.heap.size, 2, none⟩ = some (.slice (q xn) t.fs.length t.fs.length) ∧ w2.heap.size < wx.heap.size) ∧ wx.cell? ⟨b, o + i * 2 + 1, none⟩ = some (.int .i64 xn) ∧ b < wx.heap.size) := fun wx hx => by
            have hl3 : w2.heap.size < w3.heap.size := (Array.getElem?_eq_some_iff.1 Hb3.out).1
            have hlr := k2.lt
            have hs2 := Hal.out.size
            have hbx : wx.heap[w2.heap.size]? = some (.cells #[.int .i64 t.kind, .int .i64 t.tag, .slice (q xn) t.fs.length t.fs.length] 52) := (hx.block _ hl3 (by simp; omega)).trans Hb3.out
            have hc3 : w3.cell? ⟨b, o + i * 2 + 1, none⟩ = some (.int .i64 xn) := (HA3.out.cell (p := ⟨b, o + i * 2 + 1, none⟩) (World.block_lt_of_cell? _ _ hc1)).trans hc1
            have hne : b ≠ w.heap.size := k2.ne hc1
            exact ⟨⟨by simp [World.cell?, hbx], by simp [World.cell?, hbx], by simp [World.cell?, hbx], Nat.lt_of_lt_of_le hl3 hx.size⟩, hx.cell hc3 (by simpa using hne), Nat.lt_of_lt_of_le hbl (Nat.le_trans HA3.out.size hx.size)⟩
          go_upto_region 11 with fail
          refine region_any (C := fun wx => Kp [w.heap.size] w3 wx) (by kernel_rfl) ?_
          refine anyIn_read (i := 0) rfl (by kernel_rfl) (by kernel_rfl) (by kernel_rfl) (fun _ _ _ _ h => h) ?_
          apply Exists.intro
          refine ⟨Or.inl ⟨by rfl, fun wx hwx => ?_⟩, ?_⟩
          (go_simp; first | done | with_reducible rfl)
          refine anyIn_read (i := 1) rfl (by kernel_rfl) (by kernel_rfl) (by kernel_rfl) (fun _ _ _ _ h => h) ?_
          apply Exists.intro
          refine ⟨Or.inl ⟨by rfl, fun wx hwx => ?_⟩, ?_⟩
          (go_simp; first | done | with_reducible rfl)
          refine anyIn_read (i := 2) rfl (by kernel_rfl) (by kernel_rfl) (by kernel_rfl) (fun _ _ _ _ h => h) ?_
          apply Exists.intro
          refine ⟨Or.inl ⟨by rfl, fun wx hwx => ?_⟩, ?_⟩
          (go_simp; first | done | with_reducible rfl)
          refine anyIn_read (i := 3) rfl (by kernel_rfl) (by kernel_rfl) (by kernel_rfl) (fun _ _ _ _ h => h) ?_
          apply Exists.intro
          refine ⟨Or.inl ⟨by rfl, fun wx hwx => ?_⟩, ?_⟩
          (obtain ⟨⟨f0, f1, f2, f3⟩, f4, f5⟩ := Hbox.out wx hwx; go_simp; first | done | with_reducible rfl)
          refine anyIn_read (i := 4) rfl (by kernel_rfl) (by kernel_rfl) (by kernel_rfl) (fun _ _ _ _ h => h) ?_
          apply Exists.intro
          refine ⟨Or.inl ⟨by rfl, fun wx hwx => ?_⟩, ?_⟩
          (go_simp; first | done | with_reducible rfl)
          refine anyIn_read (i := 5) rfl (by kernel_rfl) (by kernel_rfl) (by kernel_rfl) (fun _ _ _ _ h => h) ?_
          apply Exists.intro
          refine ⟨Or.inl ⟨by rfl, fun wx hwx => ?_⟩, ?_⟩
          (obtain ⟨⟨f0, f1, f2, f3⟩, f4, f5⟩ := Hbox.out wx hwx; go_simp; first | done | with_reducible rfl)
          refine anyIn_read (i := 6) rfl (by kernel_rfl) (by kernel_rfl) (by kernel_rfl) (fun _ _ _ _ h => h) ?_
          apply Exists.intro
          refine ⟨Or.inl ⟨by rfl, fun wx hwx => ?_⟩, ?_⟩
          (obtain ⟨⟨f0, f1, f2, f3⟩, f4, f5⟩ := Hbox.out wx hwx; go_simp; first | done | with_reducible rfl)
          have hm3 : MapAt w3.drew w.heap.size V.length (keptV D q V) := k2.kp (Kp.of_below (X := []) HA3.out.drew) (by simp)
          obtain ⟨w4, hrun, hm4, hk4⟩ := hm3.store map29 (by unfold maxLen; omega) hwfx (thV (q xn) t)
          rw [hkv] at hm4
          simp only [Option.isSome_none, Bool.false_eq_true, if_false] at hm4
          unfold thV at hrun
          refine anyIn_one (i := 7) ((Kp.refl _ _).drew) rfl (by kernel_rfl) (fun K hK => ?_)
          go_simp
          refine hK _ _ ?_
          clear hK K
          have HK4 : Hid (Kp [w.heap.size] w3 w4) := ((Kp.refl _ _).drew).trans hk4
          refine anyIn_done HK4.out (by kernel_rfl) ?_
          go_simp
          obtain ⟨⟨f0, f1, f2, f3⟩, f4, f5⟩ := Hbox.out w4 HK4.out
          have hbge : w.heap.size + 1 ≤ b := owns_ge k1
          have hlr := k2.lt
          have hAs := HA3.out.size
          have HR4 : Hid (Kp [w.heap.size] wr w4) := (Kp.of_below HA3.out).trans HK4.out
          have hown4 : OwnC w4 (w.heap.size + 1) (.slice (some ⟨b, o, none⟩) (todoL D rs V).length c) (todoL D rs V) := owns_kp k1 HR4.out (by simp)
          have HW4 : Hid (Below w.heap.size w w4) := Kp.below (Kp.then (Kp.of_below (X := []) k3) HR4.out (by simp)) (Nat.le_refl _) (by simp)
          have Hrow4 : Hid (RowC w4 (q xn) t.fs) := trow.below HW4.out
          have Htn : Hid (q xn = none → t.fs.length = 0 ∧ t.fs.length = 0) := tnil
          have hsz4 : w.heap.size + 1 ≤ w4.heap.size := by have := HR4.out.size; omega
          have Hfs : Hid (fsOf D xn = t.fs) := by unfold Hid fsOf; rw [ht]; rfl
          have hnd : (V ++ [xn]).Nodup := List.nodup_append.2 ⟨k4, by simp, by intro a ha b hb; simp at hb; subst hb; exact fun e => hin (e ▸ ha)⟩
          have hfl2 : fieldsT D V + t.fs.length ≤ fieldsT D ks := by
            have h := fieldsT_sub D (V ++ [xn]) ks hnd (fun y hy => by
              rcases List.mem_append.1 hy with hy | hy
              · exact hVk y hy
              · simp at hy; subst hy; exact hxk)
            rw [fieldsT_snoc, Hfs.out] at h
            exact h
          have hlen4 : ((todoL D rs V).length + t.fs.length) * 16 ≤ 140737488355328 := by rw [Htl.out]; omega
          have hcb : cellsT D V + 1 + t.fs.length ≤ 9007199254740992 := by rw [cellsT_eq]; omega
          have hwA : IntKind.i64.wrap ((cellsT D V : Int) + 1) = (cellsT D V : Int) + 1 := by rw [IntKind.wrap_i64]; omega
          have hwB : IntKind.i64.wrap ((cellsT D V : Int) + 1 + t.fs.length) = (cellsT D V : Int) + 1 + t.fs.length := by rw [IntKind.wrap_i64]; omega
          have Hnv : Hid ((cellsT D V : Int) + 1 + t.fs.length = (cellsT D (V ++ [xn]) : Int)) := by unfold Hid; rw [cellsT_snoc, Hfs.out]; omega
          have Hm4 : Hid (MapAt w4 w.heap.size (V ++ [xn]).length (keptV D q (V ++ [xn]))) := by
            unfold Hid
            rw [← keptV_snoc ht]
            simpa using hm4
          have HV : Hid (∀ y ∈ V ++ [xn], Reach D rs y ∧ (D y).isSome = true) := fun y hy => by
            rcases List.mem_append.1 hy with hy | hy
            · exact k5 y hy
            · simp at hy; subst hy; exact ⟨hrx, by rw [ht]; rfl⟩
          have HT : Hid (∀ x, x ∈ (todoL D rs (V ++ [xn])).take (i + 1) → x.p = true → x.n ∈ V ++ [xn]) := fun y hy hp => by
            rw [todoL_snoc, List.take_append_of_le_length (by omega), htk] at hy
            rcases List.mem_append.1 hy with hy | hy
            · exact List.mem_append_left _ (k6 y hy hp)
            · simp at hy; subst hy; exact List.mem_append_right _ (by simp)
          have Hsn : Hid (todoL D rs V ++ t.fs = todoL D rs (V ++ [xn])) := by unfold Hid; rw [todoL_snoc, Hfs.out]
          have Hnd : Hid ((V ++ [xn]).Nodup) := hnd
          have Htk : Hid (i + 1 ≤ (todoL D rs (V ++ [xn])).length) := by unfold Hid; rw [← Hsn.out, List.length_append]; omega
          have Hl5 : Hid ((todoL D rs (V ++ [xn])).length ≤ maxLen) := by unfold Hid maxLen; rw [← Hsn.out, List.length_append]; omega
          clear k1 k2 k3 k4 k5 k6 htk hrow hinx hxx hwfx hm3 hrun hm4 hk4 hkv trow tnil hnd hmap hxk Hbox f4 hlr hVk hfl hfl2 HA3 Hal Hal3 Hb3 hcb hrx twf
          go_wp2_with (at_builtin; refine wpList_append_cells rfl _ _ rfl hown4 Hrow4.out Htn.out hlen4 hsz4 rfl rfl ?_)
          intro v5 w5 ho5 hg5 hat5
          rw [Hsn.out] at ho5
          obtain ⟨q5, c5, hv5, hc5, _⟩ := OwnC.at ho5.out Hl5.out
          subst hv5
          have hKg : Kp [b] w4 w5 := Kp.of_grown hg5.out (by intro k hk; simp [Value.ownBlock] at hk; simp [hk])
          have Q : Hid (OwnC w5 (w.heap.size + 1) (.slice q5 (todoL D rs (V ++ [xn])).length c5) (todoL D rs (V ++ [xn])) ∧ MapAt w5 w.heap.size (V ++ [xn]).length (keptV D q (V ++ [xn])) ∧ Below w.heap.size w w5 ∧ (V ++ [xn]).Nodup ∧ (∀ b ∈ V ++ [xn], Reach D rs b ∧ (D b).isSome = true) ∧ ∀ x, x ∈ (todoL D rs (V ++ [xn])).take (i + 1) → x.p = true → x.n ∈ V ++ [xn]) :=
            ⟨ho5.out, Hm4.out.kp hKg (by simp; omega), Kp.below (Kp.then (Kp.of_below (X := []) HW4.out) hKg (by simp; omega)) (Nat.le_refl _) (by simp), Hnd.out, HV.out, HT.out⟩
          clear hown4 hlen4 hsz4 ho5 hg5 hat5 hKg f0 f1 f2 f3 hwA hwB hc5
          go_wp2
          go_roundg (rs.length + fieldsT D ks - (i + 1))
          case measure => omega
          case rel => exact ⟨i + 1, V ++ [xn], q5, c5, rfl, by rw [Hnv.out], by first | rfl | (congr 1; omega) | go_num, Htk.out, rfl, Q.out⟩
    · have hbx : wr.heap[hb]? = some (.cells #[.int .i64 size, .map mp, .int .i64 next] 31) := (k3.block hb (Array.getElem?_eq_some_iff.1 HD.out.box).1).trans HD.out.box
      have hbl : hb < wr.heap.size := (Array.getElem?_eq_some_iff.1 hbx).1
      have hc1 : wr.cell? ⟨hb, 1, none⟩ = some (.map mp) := by simp [World.cell?, hbx]
      have hfr : wr.frozen? ⟨hb, 1, none⟩ = false := by simp [World.frozen?, hbx]
      have hi' : ¬ ((i : Int) < (todoL D rs V).length) := by omega
      have Q : Hid (LivePost w hb size next D q rs (.returned (.int .i64 (cellsT D V : Int))) (wr.setCell ⟨hb, 1, none⟩ (.map (some w.heap.size)))) := by
        have hall : ∀ b, b ∈ V ↔ Reach D rs b := fun b => ⟨fun h => (k5 b h).1, todoL_all (fun b hb => k6 ⟨true, b⟩ (by rw [List.take_of_length_le (by omega)]; exact hb) rfl) b⟩
        exact live_post HD.out k2 k3 k4 hall hbx (fun b hb => (k5 b hb).2)
      clear k1 k2 k3 k4 k5 k6 hVk hfl hVl htl
      go_wp2
      exact bodyPost_ret (by simp [results, Try.results11, go_sem]) rfl Q.out
end
end Go.Proofs.Ytfeopoamednidaa
