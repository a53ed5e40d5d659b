/-
  The layer heap: Make of the document's heap.
-/
import Derived.Test.YtfeopoamednidaaH4
namespace Go.Proofs.Ytfeopoamednidaa
open Go.RowKit Go.Deep
theorem make32 (n : Int) (h0 : 0 ≤ n) (hn : n ≤ 1000000) (w : World) : (Instr.makeSlice 32 (.int .i64 n) (.int .i64 n)).run Try.prog w = .ok (.slice (some ⟨w.heap.size, 0, none⟩) n.toNat n.toNat) (w.alloc (.cells (madeCells #[.bool false, .int .i64 0] (n.toNat * 2)) 50)) := by
  obtain ⟨i, h1, h2, h3, h4⟩ := info_parts infos49
  have hr := run_make (P := Try.prog) w 32 50 i _ Try.underlying32 h1 h2 .i64 .i64 n n (by omega) (Int.le_refl _) (by rw [h4]; omega) (by omega)
  rw [h3] at hr
  exact hr
theorem made_get (m j : Nat) (h : j < m) : (madeCells #[.bool false, .int .i64 0] m)[j]? = some (#[Value.bool false, Value.int .i64 0][j % 2]!) := by
  unfold madeCells
  simp [h]
theorem RowC.zeros (w : World) (n : Nat) (hn : n ≤ maxLen) : RowC (w.alloc (.cells (madeCells #[.bool false, .int .i64 0] (n * 2)) 50)) (some ⟨w.heap.size, 0, none⟩) (List.replicate n default) := by
  refine ⟨by simpa using hn, fun i hi => ⟨w.heap.size, 0, rfl, ?_, ?_⟩⟩
  · have hi' : i < n := by simpa using hi
    have := alloc_get w (.cells (madeCells #[.bool false, .int .i64 0] (n * 2)) 50)
    simp only [World.cell?, this, Nat.zero_add]
    rw [List.getElem_replicate]
    show (madeCells #[.bool false, .int .i64 0] (n * 2))[i * 2]? = _
    rw [made_get _ _ (by omega), show i * 2 % 2 = 0 from by omega]
    rfl
  · have hi' : i < n := by simpa using hi
    have := alloc_get w (.cells (madeCells #[.bool false, .int .i64 0] (n * 2)) 50)
    simp only [World.cell?, this, Nat.zero_add]
    rw [List.getElem_replicate]
    show (madeCells #[.bool false, .int .i64 0] (n * 2))[i * 2 + 1]? = _
    rw [made_get _ _ (by omega), show (i * 2 + 1) % 2 = 1 from by omega]
    rfl
theorem DocAt.grown {w w' : World} {hb : Nat} {size next : Int} {D : Doc} {mp : Option Nat} {q : Int → Option Addr} {ks : List Int} (h : DocAt w hb size next D mp q ks) (hk : Kp [] w w') : DocAt w' hb size next D mp q ks := by
  refine ⟨(hk.block hb (Array.getElem?_eq_some_iff.1 h.box).1 (by simp)).trans h.box, ?_, h.nd, h.keys, fun b t hb => ?_⟩
  · rcases h.map with h | ⟨mb, e, hm⟩
    · exact Or.inl h
    · exact Or.inr ⟨mb, e, hm.kp hk (by simp)⟩
  · obtain ⟨h1, h2, h3⟩ := h.rows b t hb
    exact ⟨h1.kp hk (by simp), h2, h3⟩
def okArgs (kind tag n : Int) : Prop := 0 ≤ kind ∧ kind ≤ 4 ∧ 0 ≤ tag ∧ tag ≤ 65535 ∧ 0 ≤ n ∧ n ≤ 1000000
instance (kind tag n : Int) : Decidable (okArgs kind tag n) := by unfold okArgs; infer_instance
inductive MakeRPost (w : World) (hb : Nat) (size next : Int) (D : Doc) (q : Int → Option Addr) (rs : List Cl) (kind tag n : Int) (e : Ending) (w' : World) : Prop
  | bad (he : e = .returned (.tuple #[.int .i64 0, .int .i64 21])) (hw : w' = w) (hn : ¬ okArgs kind tag n) : MakeRPost w hb size next D q rs kind tag n e w'
  | full (V : List Int) (mb : Nat) (he : e = .returned (.tuple #[.int .i64 0, .int .i64 22])) (hok : okArgs kind tag n) (hV : ∀ b, b ∈ V ↔ Reach D rs b) (hs : size < (cellsT D V : Int) + 1 + n) (hd : DocAt w' hb size next (keptD D V) (some mb) q V) (hk : Kp [hb] w w') (hm : w.heap.size ≤ mb) : MakeRPost w hb size next D q rs kind tag n e w'
  | made (V : List Int) (mb g : Nat) (he : e = .returned (.tuple #[.int .i64 next, .int .i64 0])) (hok : okArgs kind tag n) (hV : ∀ b, b ∈ V ↔ Reach D rs b) (hs : (cellsT D V : Int) + 1 + n ≤ size) (hd : DocAt w' hb size (next + 1) (upd (keptD D V) next (some ⟨kind, tag, List.replicate n.toNat default⟩)) (some mb) (upd q next (some ⟨g, 0, none⟩)) (V ++ [next])) (hk : Kp [hb] w w') (hm : w.heap.size ≤ mb) (hg : w.heap.size ≤ g) (hgo : ∃ cur, w'.heap[g]? = some (.cells cur 50)) : MakeRPost w hb size next D q rs kind tag n e w'
section
set_option maxHeartbeats 8000000
set_option maxRecDepth 100000
theorem makeR_any (w : World) (hb : Nat) (size next : Int) (D : Doc) (mp : Option Nat) (q : Int → Option Addr) (ks : List Int) (hD : DocAt w hb size next D mp q ks) (rs : List Cl) (p : Option Addr) (cap : Nat) (hr : RowC w p rs) (hz : p = none → rs.length = 0 ∧ cap = 0) (hwr : ∀ c ∈ rs, wfC c)
    (hg : ∀ b, Reach D rs b → (D b).isSome = true) (hsz : (rs.length + fieldsT D ks) * 16 ≤ 140737488355328) (hks : ks.length ≤ 1000000000) (hfr : D next = none) (hnx : 0 ≤ next ∧ next ≤ 9000000000000) (kind tag n : Int) :
    Calls Try.prog 21 #[.pointer (some ⟨hb, 0, none⟩), .int .i64 kind, .int .i64 tag, .int .i64 n, .slice p rs.length cap] w fun e w' => MakeRPost w hb size next D q rs kind tag n e w' := by
  have HD : Hid (DocAt w hb size next D mp q ks) := hD
  have Hg : Hid (∀ b, Reach D rs b → (D b).isSome = true) := hg
  have Hwr : Hid (∀ c ∈ rs, wfC c) := hwr
  have Hz : Hid (p = none → rs.length = 0 ∧ cap = 0) := hz
  have Hr : Hid (RowC w p rs) := hr
  clear hD hg hwr hz hr
  by_cases hok : ¬ okArgs kind tag n
  · clear HD Hg Hwr Hz Hr hfr hsz hks
    by_cases c0 : kind < 0
    · clear hok
      go_enter Try.func21, Try.ntmps21
      go_wp2
      exact bodyPost_ret (v := .tuple #[.int .i64 0, .int .i64 21]) (by simp [results, Try.results21, go_sem]) rfl (MakeRPost.bad rfl rfl (by unfold okArgs; omega))
    by_cases c1 : 4 < kind
    · clear hok
      go_enter Try.func21, Try.ntmps21
      go_wp2
      exact bodyPost_ret (v := .tuple #[.int .i64 0, .int .i64 21]) (by simp [results, Try.results21, go_sem]) rfl (MakeRPost.bad rfl rfl (by unfold okArgs; omega))
    by_cases c2 : tag < 0
    · clear hok
      go_enter Try.func21, Try.ntmps21
      go_wp2
      exact bodyPost_ret (v := .tuple #[.int .i64 0, .int .i64 21]) (by simp [results, Try.results21, go_sem]) rfl (MakeRPost.bad rfl rfl (by unfold okArgs; omega))
    by_cases c3 : 65535 < tag
    · clear hok
      go_enter Try.func21, Try.ntmps21
      go_wp2
      exact bodyPost_ret (v := .tuple #[.int .i64 0, .int .i64 21]) (by simp [results, Try.results21, go_sem]) rfl (MakeRPost.bad rfl rfl (by unfold okArgs; omega))
    by_cases c4 : n < 0
    · clear hok
      go_enter Try.func21, Try.ntmps21
      go_wp2
      exact bodyPost_ret (v := .tuple #[.int .i64 0, .int .i64 21]) (by simp [results, Try.results21, go_sem]) rfl (MakeRPost.bad rfl rfl (by unfold okArgs; omega))
    have c5 : 1000000 < n := by unfold okArgs at hok; omega
    clear hok
    go_enter Try.func21, Try.ntmps21
    go_wp2
    exact bodyPost_ret (v := .tuple #[.int .i64 0, .int .i64 21]) (by simp [results, Try.results21, go_sem]) rfl (MakeRPost.bad rfl rfl (by unfold okArgs; omega))
  · have hok := Decidable.not_not.1 hok
    have Hok : Hid (okArgs kind tag n) := hok
    obtain ⟨a0, a1, a2, a3, a4, a5⟩ := hok
    have b0 : ¬ kind < 0 := by omega
    have b1 : ¬ 4 < kind := by omega
    have b2 : ¬ tag < 0 := by omega
    have b3 : ¬ 65535 < tag := by omega
    have b4 : ¬ n < 0 := by omega
    have b5 : ¬ 1000000 < n := by omega
    have Hlive := live_any w hb size next D mp q ks HD.out rs p cap Hr.out Hz.out Hwr.out Hg.out hsz hks
    have Hlive : Hid _ := Hlive
    go_enter Try.func21, Try.ntmps21
    go_wp2_with (go_at_call 11; refine Calls.mono Hlive.out ?_)
    rintro e w1 ⟨V, mb, rfl, hV, hd, hk, hm⟩
    clear Hlive
    have hVk : ∀ b ∈ V, b ∈ ks := fun b hb => (HD.out.keys b).1 (Hg.out b ((hV b).1 hb))
    have hfl : fieldsT D V ≤ fieldsT D ks := fieldsT_sub D V ks hd.nd hVk
    have hVl : V.length ≤ ks.length := len_sub V ks hd.nd hVk
    have hcb : cellsT D V ≤ 9007199254740992 := by rw [cellsT_eq]; omega
    have hwA : IntKind.i64.wrap ((cellsT D V : Int) + 1) = (cellsT D V : Int) + 1 := by rw [IntKind.wrap_i64]; omega
    have hwB : IntKind.i64.wrap ((cellsT D V : Int) + 1 + n) = (cellsT D V : Int) + 1 + n := by rw [IntKind.wrap_i64]; omega
    have hbx := hd.box
    have hbl : hb < w1.heap.size := (Array.getElem?_eq_some_iff.1 hbx).1
    have hc0 : w1.cell? ⟨hb, 0, none⟩ = some (.int .i64 size) := by simp [World.cell?, hbx]
    have HP : Hid ((∀ b, b ∈ V ↔ Reach D rs b) ∧ DocAt w1 hb size next (keptD D V) (some mb) q V ∧ Kp [hb] w w1 ∧ w.heap.size ≤ mb ∧ V.length ≤ ks.length) := ⟨hV, hd, hk, hm, hVl⟩
    clear hV hd hk hm hVk hfl hVl hcb hbx
    by_cases hs : size < (cellsT D V : Int) + 1 + n
    · have Q : Hid (MakeRPost w hb size next D q rs kind tag n (.returned (.tuple #[.int .i64 0, .int .i64 22])) w1) := by
        obtain ⟨h1, h2, h3, h4, _⟩ := HP.out
        exact MakeRPost.full V mb rfl Hok.out h1 hs h2 h3 h4
      clear HP HD Hg Hwr Hz Hr hsz hks hfr
      go_wp2
      exact bodyPost_ret (v := .tuple #[.int .i64 0, .int .i64 22]) (by simp [results, Try.results21, go_sem]) rfl Q.out
    · have hm32 := make32 n a4 a5
      have hk1 : Kp [] w1 (w1.alloc (.cells (madeCells #[.bool false, .int .i64 0] (n.toNat * 2)) 50)) := Kp.alloc _ _ _
      have Hadd : Hid (Calls Try.prog 29 #[.pointer (some ⟨hb, 0, none⟩), .int .i64 kind, .int .i64 tag, .slice (some ⟨w1.heap.size, 0, none⟩) n.toNat n.toNat] (w1.alloc (.cells (madeCells #[.bool false, .int .i64 0] (n.toNat * 2)) 50)) fun e w' => AddPost (w1.alloc (.cells (madeCells #[.bool false, .int .i64 0] (n.toNat * 2)) 50)) hb size next (keptD D V) (some mb) q V kind tag (some ⟨w1.heap.size, 0, none⟩) (List.replicate n.toNat default) e w') := by
        obtain ⟨h1, h2, h3, h4, h5⟩ := HP.out
        have h := add_any (w1.alloc (.cells (madeCells #[.bool false, .int .i64 0] (n.toNat * 2)) 50)) hb size next (keptD D V) (some mb) q V (h2.grown hk1) (by unfold keptD; rw [hfr]; split <;> rfl) kind tag (some ⟨w1.heap.size, 0, none⟩) (List.replicate n.toNat default) (by omega) hnx (RowC.zeros w1 n.toNat (by unfold maxLen; omega)) (fun h => by cases h) (fun c hc => by
          rw [List.eq_of_mem_replicate hc]
          unfold wfC
          exact i64_wf (by decide))
        rw [List.length_replicate] at h
        exact h
      have Hk1 : Hid (Kp [] w1 (w1.alloc (.cells (madeCells #[.bool false, .int .i64 0] (n.toNat * 2)) 50))) := hk1
      clear HD Hg Hwr Hz Hr hsz hks hfr hk1
      go_wp2_with (go_at_call 29; refine Calls.mono Hadd.out ?_)
      rintro e w3 ⟨mb', rfl, hmb, hd3, hk3⟩
      have Q : Hid (MakeRPost w hb size next D q rs kind tag n (.returned (.tuple #[.int .i64 next, .int .i64 0])) w3) := by
        obtain ⟨h1, h2, h3, h4, _⟩ := HP.out
        have e : mb' = mb := by
          rcases hmb with h | ⟨h, _⟩
          · cases h
            rfl
          · cases h
        subst e
        have hml : mb' < w1.heap.size := by
          rcases h2.map with ⟨h, _⟩ | ⟨mb2, h, hmp⟩
          · cases h
          · cases h
            exact hmp.lt
        have hbl2 := (Array.getElem?_eq_some_iff.1 h2.box).1
        exact MakeRPost.made V mb' w1.heap.size rfl Hok.out h1 (by omega) hd3 (Kp.then (Kp.trans h3 (Hk1.out.mono (by simp))) hk3 (by simp; omega)) h4 h3.size ⟨_, (hk3.block w1.heap.size (by simp) (by simp; omega)).trans (alloc_get w1 _)⟩
      clear HP Hadd Hk1 hmb hd3 hk3 hm32
      go_wp2
      exact bodyPost_ret (v := .tuple #[.int .i64 next, .int .i64 0]) (by simp [results, Try.results21, go_sem]) rfl Q.out
end
end Go.Proofs.Ytfeopoamednidaa
