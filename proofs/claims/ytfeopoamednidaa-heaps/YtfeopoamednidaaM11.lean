/-
  Make.
-/
import Derived.Test.YtfeopoamednidaaM10
namespace Go.Proofs.Ytfeopoamednidaa
open Go.RowKit Go.Deep Go.IntWalk
theorem encL_snoc0 (a : Int) (ts : List Th) (t : Th) : encL (fun _ => 0) a (ts ++ [t]) = encL (fun _ => 0) a ts ++ encT 0 t := by
  rw [encL_app, encL, encL, List.append_nil]
theorem enc_new (kind tag : Int) (m : Nat) (L : List Wd) : (L ++ List.replicate (m + 1) zw).set L.length ⟨m, 0, tag, kind, 2⟩ = L ++ encT 0 ⟨kind, tag, List.replicate m default⟩ := by
  rw [List.set_append_right _ _ (Nat.le_refl _), Nat.sub_self, List.replicate_succ, List.set_cons_zero]
  simp only [encT, hdw, List.length_replicate, List.map_replicate]
  rfl
theorem conv5 (n : Int) (h : 0 ≤ n ∧ n ≤ 4) (w : World) : (convert 3 5 (.int .i64 n)).run Try.prog w = .ok (.int .u8 n) w := by
  have : (convert 3 5 (.int .i64 n)).run Try.prog w = .ok (.int .u8 (IntKind.u8.wrap n)) w := by kernel_rfl
  rw [this, u8_in _ (by omega)]
theorem conv77 (n : Int) (h : 0 ≤ n ∧ n ≤ 65535) (w : World) : (convert 3 77 (.int .i64 n)).run Try.prog w = .ok (.int .u16 n) w := by
  have : (convert 3 77 (.int .i64 n)).run Try.prog w = .ok (.int .u16 (IntKind.u16.wrap n)) w := by kernel_rfl
  rw [this, u16_in _ (by omega)]
section
set_option maxHeartbeats 8000000
set_option maxRecDepth 100000
theorem make_arg (w : World) (hb wb : Nat) (kind tag n : Int) (h : kind < 0 ∨ 4 < kind ∨ tag < 0 ∨ 65535 < tag ∨ n < 0 ∨ 1000000 < n) :
    Calls Try.prog 20 #[.pointer (some ⟨hb, 0, none⟩), .int .i64 kind, .int .i64 tag, .int .i64 n, .func (.func 10) #[.pointer (some ⟨wb, 0, none⟩)] #[]] w fun e w' => e = .returned (.tuple #[.int .i64 0, .int .i64 21]) ∧ w' = w := by
  by_cases h1 : kind < 0
  · go_enter Try.func20, Try.ntmps20
    go_wp2_with fail
    exact bodyPost_ret (by simp [results, Try.results20, go_sem]) rfl ⟨rfl, rfl⟩
  by_cases h2 : 4 < kind
  · go_enter Try.func20, Try.ntmps20
    go_wp2_with fail
    exact bodyPost_ret (by simp [results, Try.results20, go_sem]) rfl ⟨rfl, rfl⟩
  by_cases h3 : tag < 0
  · go_enter Try.func20, Try.ntmps20
    go_wp2_with fail
    exact bodyPost_ret (by simp [results, Try.results20, go_sem]) rfl ⟨rfl, rfl⟩
  by_cases h4 : 65535 < tag
  · go_enter Try.func20, Try.ntmps20
    go_wp2_with fail
    exact bodyPost_ret (by simp [results, Try.results20, go_sem]) rfl ⟨rfl, rfl⟩
  by_cases h5 : n < 0
  · go_enter Try.func20, Try.ntmps20
    go_wp2_with fail
    exact bodyPost_ret (by simp [results, Try.results20, go_sem]) rfl ⟨rfl, rfl⟩
  have h6 : 1000000 < n := by omega
  clear h
  go_enter Try.func20, Try.ntmps20
  go_wp2_with fail
  exact bodyPost_ret (by simp [results, Try.results20, go_sem]) rfl ⟨rfl, rfl⟩
theorem make_any (w : World) (hb : Nat) (cells first : Int) (v : Value) (ts : List Th) (h : HpO w hb cells first v (encL (fun _ => 0) first ts)) (hcs : 0 ≤ cells ∧ cells ≤ 1000000) (hf : first ≤ 8000000000000000000) (hc : Closed first ts) (rs : List Cl) (hro : RootsOk (docOf first ts) rs) (base : Nat) (rv : Value) (wb : Nat) (h0 h1 h3 : Value) (hW : w.heap[wb]? = some (.cells #[h0, h1, rv, h3] 34)) (hr : OwnC w base rv rs) (hl : rs.length ≤ 9000000000000) (kind tag n : Int) :
    Calls Try.prog 20 #[.pointer (some ⟨hb, 0, none⟩), .int .i64 kind, .int .i64 tag, .int .i64 n, .func (.func 10) #[.pointer (some ⟨wb, 0, none⟩)] #[]] w fun e w' => MakePost w hb cells first v ts rs base rv kind tag n e w' := by
  by_cases hbad : kind < 0 ∨ 4 < kind ∨ tag < 0 ∨ 65535 < tag ∨ n < 0 ∨ 1000000 < n
  · refine Calls.mono (make_arg w hb wb kind tag n hbad) ?_
    rintro e w' ⟨rfl, rfl⟩
    exact MakePost.arg hbad w' (Below.refl _ _)
  obtain ⟨m, rfl⟩ : ∃ m : Nat, n = m := ⟨n.toNat, by omega⟩
  have hm1 : m ≤ 1000000 := by omega
  have hok : 0 ≤ kind ∧ kind ≤ 4 ∧ 0 ≤ tag ∧ tag ≤ 65535 ∧ (m : Int) ≤ 1000000 := by omega
  have b1 : ¬ (kind < 0) := by omega
  have b2 : ¬ (4 < kind) := by omega
  have b3 : ¬ (tag < 0) := by omega
  have b4 : ¬ (65535 < tag) := by omega
  have b5 : ¬ ((m : Int) < 0) := by omega
  have b6 : ¬ (1000000 < (m : Int)) := by omega
  have wm : wrap64 ((m : Int) + 1) = (m : Int) + 1 := wr64s m hm1
  have Hfits : Hid (Calls Try.prog 27 #[.pointer (some ⟨hb, 0, none⟩), .int .i64 ((m : Int) + 1), .func (.func 10) #[.pointer (some ⟨wb, 0, none⟩)] #[]] w fun e w' => FitsIs w hb cells first v ts rs base rv m e w') :=
    Calls.mono (fits_any w hb cells first v ts h hcs hf hc rs hro base rv wb h0 h1 h3 hW hr hl ((m : Int) + 1) (by omega)) (fun e w' g => fits_is h hr hc hro g)
  clear hbad h hr hc hro hW
  go_enter Try.func20, Try.ntmps20
  go_wp2_with fail
  refine Calls.mono Hfits.out ?_
  clear Hfits
  intro e w2 hF
  cases hF with
  | no hV w2 first1 v1 ts1 rs1 hg =>
    have Q : Hid (MakePost w hb cells first v ts rs base rv kind tag m (.returned (.tuple #[.int .i64 0, .int .i64 22])) w2) := MakePost.mem m rfl hok hV w2 first1 v1 ts1 rs1 hg
    clear hV hg
    go_wp2_with fail
    exact bodyPost_ret (by simp [results, Try.results20, go_sem]) rfl Q.out
  | yes hV w2 first1 v1 ts1 rs1 hg hfit =>
    obtain ⟨p, cap, rfl, hA, ha⟩ := hg.hp.at
    rw [encL_len] at *
    have Hend : Hid (Calls Try.prog 22 #[.pointer (some ⟨hb, 0, none⟩)] w2 fun e w' => e = .returned (.int .i64 (first1 + total ts1)) ∧ Below w2.heap.size w2 w') := Calls.mono (end_any w2 hb 0 cells first1 p cap _ hA) (fun e w' g => ⟨by rw [g.1, encL_len], g.2⟩)
    have HG : Hid (Gc w hb cells first v ts rs base rv w2 first1 (.slice p (total ts1) cap) ts1 rs1) := hg
    have HV : Hid (∀ V : List Int, V.Nodup → (∀ x, x ∈ V ↔ Reach (docOf first ts) rs x) → (cellsT (docOf first ts) V : Int) + 1 + m ≤ cells) := hV
    have Hfit : Hid ((total ts1 : Int) + 1 + m ≤ cells) := hfit
    clear hg hV hA ha hfit
    go_wp2_with fail
    refine Calls.mono Hend.out ?_
    clear Hend
    rintro e w3 ⟨rfl, hb3⟩
    have hk3 : Kp [] w2 w3 := Kp.of_below hb3
    have hO3 := HG.out.hp.kp hk3 (by simp) (by simp)
    have hbx3 := hO3.box
    have HO3 : Hid _ := hO3
    have Hk3 : Hid (Kp [] w2 w3) := hk3
    have Htake : Hid _ := take_any w3 hb 0 (.slice p (total ts1) cap) _ (by simp only [World.cell?, hbx3]; rfl) (by simp only [World.frozen?, hbx3]; rfl) (hO3.own.ne hbx3 (by decide)) hO3.own (m + 1) (by omega) hO3.len (by rw [encL_len]; have := Hfit.out; omega)
    clear hb3 hk3 hO3 hbx3
    go_wp2_with fail
    refine Calls.mono Htake.out ?_
    clear Htake
    rintro e w4 ⟨g, gc, w4, ho4, hg4, hat, hgc⟩
    simp only [show (0 : Nat) + 2 = 2 by rfl]
    have hfit := Hfit.out
    rw [encL_len] at ho4 hgc
    simp only [encL_len]
    have hbl3 := (Array.getElem?_eq_some_iff.1 HO3.out.box).1
    have hbx4 : w4.heap[hb]? = _ := (hg4.block hb hbl3 (fun e => HO3.out.own.ne HO3.out.box (by decide) e.symm)).trans HO3.out.box
    have hgb : g ≠ hb := fun e => by
      rcases hat with h | h
      · exact HO3.out.own.ne HO3.out.box (by decide) (e ▸ h)
      · omega
    have hk4 : Kp (Value.ownBlock (.slice p (total ts1) cap)).toList w3 w4 := Kp.of_grown hg4 (by intro k hk; rw [hk]; simp)
    have hk5 : Kp [hb] w4 (w4.setCell ⟨hb, 2, none⟩ (.slice (some ⟨g, 0, none⟩) (total ts1 + (m + 1)) gc)) := Kp.setCell _ _ (by simp) _
    have hbx5 : (w4.setCell ⟨hb, 2, none⟩ (.slice (some ⟨g, 0, none⟩) (total ts1 + (m + 1)) gc)).heap[hb]? = some (.cells #[.int .i64 cells, .int .i64 first1, .slice (some ⟨g, 0, none⟩) (total ts1 + (m + 1)) gc] 43) := by simp [World.setCell, Array.getElem?_modify, hbx4]
    have hown5 := ho4.kp hk5 (by intro k hk; cases hk; simpa using hgb)
    have hs3 := Hk3.out.size
    have hs4 := hg4.size
    generalize w4.setCell ⟨hb, 2, none⟩ (.slice (some ⟨g, 0, none⟩) (total ts1 + (m + 1)) gc) = w5 at *
    have hlen5 : (encL (fun _ => 0) first1 ts1 ++ List.replicate (m + 1) zw).length = total ts1 + (m + 1) := by simp [encL_len]
    have hkl : total ts1 < (encL (fun _ => 0) first1 ts1 ++ List.replicate (m + 1) zw).length := by omega
    obtain ⟨q5, c5, hv5, -, hr5, -, -⟩ := hown5.at (by rw [hlen5]; omega)
    rw [hlen5] at hv5
    cases hv5
    obtain ⟨y5, hy5⟩ : ∃ y, (encL (fun _ => 0) first1 ts1 ++ List.replicate (m + 1) zw)[total ts1]? = some y := ⟨_, List.getElem?_eq_getElem hkl⟩
    obtain ⟨g', hp5, ⟨d0, d1, d2, d3, d4⟩, hgl⟩ := hr5.at_ hy5
    clear hy5
    cases hp5
    rw [Nat.zero_add] at d0 d1 d2 d3 d4
    have hfz : ∀ o, w5.frozen? ⟨g, o, none⟩ = false := fun o => ownsRow_frozen hown5 rfl o
    have z0 := hfz (total ts1 * 5)
    have z1 := hfz (total ts1 * 5 + 1)
    have z2 := hfz (total ts1 * 5 + 2)
    have z3 := hfz (total ts1 * 5 + 3)
    have z4 := hfz (total ts1 * 5 + 4)
    have hset := put5_own hown5 (g := g) rfl (total ts1) hkl ⟨m, 0, tag, kind, 2⟩
    have henc := enc_new kind tag m (encL (fun _ => 0) first1 ts1)
    rw [encL_len] at henc
    rw [henc, ← encL_snoc0] at hset
    have hk6 : Kp [g] w5 (put5 w5 g (total ts1 * 5) ⟨m, 0, tag, kind, 2⟩) := put5_kp _ _ _ _
    have hbx6 := (hk6.block hb (Array.getElem?_eq_some_iff.1 hbx5).1 (by simpa using fun e : hb = g => hgb e.symm)).trans hbx5
    have hHp : HpO (put5 w5 g (total ts1 * 5) ⟨m, 0, tag, kind, 2⟩) hb cells first1 (.slice (some ⟨g, 0, none⟩) (total ts1 + (m + 1)) gc) (encL (fun _ => 0) first1 (ts1 ++ [⟨kind, tag, List.replicate m default⟩])) :=
      ⟨hbx6, hset, by rw [encL_len, total_app]; simp [total, Th.sz]; omega, HO3.out.pos⟩
    have Q : Hid (MakePost w hb cells first v ts rs base rv kind tag m (.returned (.tuple #[.int .i64 (first1 + total ts1), .int .i64 0])) (put5 w5 g (total ts1 * 5) ⟨m, 0, tag, kind, 2⟩)) := by
      refine MakePost.new m rfl hok HV.out w2 _ first1 _ _ ts1 rs1 HG.out hHp ?_ ?_
      · refine ((((Hk3.out.mono (by simp)).then hk4 (fun y hy => Or.inl (by simp at hy ⊢; exact Or.inr hy))).then hk5 (by simp)).then hk6 ?_)
        intro y hy
        simp at hy
        subst hy
        rcases hat with h | h
        · exact Or.inl (by simp [h])
        · exact Or.inr (by omega)
      · rcases hat with h | h
        · exact Or.inl (by rw [h]; rfl)
        · exact Or.inr ⟨g, rfl, by omega⟩
    have v5 := conv5 kind (by omega)
    have v77 := conv77 tag (by omega)
    have hmm : (0 : Int) < ((m + 1 : Nat) : Int) := by omega
    clear hHp hbx6 hk6 hset henc hfz hr5 hown5 hbx5 hk5 hk4 hbx4 ho4 hg4 hat HO3 Hk3 HG HV Hfit hgb hs3 hs4 hlen5 hkl
    unfold put5 at Q
    simp only at Q
    go_wp2_with fail
    exact bodyPost_ret (by simp [results, Try.results20, go_sem]) rfl Q.out
end
end Go.Proofs.Ytfeopoamednidaa
