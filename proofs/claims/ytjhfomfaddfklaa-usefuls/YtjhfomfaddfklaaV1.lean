/-
  The program's layer matches: lines: matchesAll, first, rest, trimmed.
-/
import Derived.Test.YtjhfomfaddfklaaV0
namespace Go.Proofs.Ytjhfomfaddfklaa
open Go.RowKit Go.Deep
section
set_option maxHeartbeats 4000000
set_option maxRecDepth 100000
theorem matchesAll_any (w : World) (p : Option Addr) (n cap : Nat) : Calls Try.prog 26 #[.slice p n cap] w fun e w' => e = .returned (.bool (decide (n = 0))) ∧ w' = w := by
  have hd : ((n : Int) == 0) = decide (n = 0) := by
    by_cases h : n = 0 <;> simp [h]
  go_enter Try.func26, Try.ntmps26
  go_wp2
  go_ret
  exact ⟨rfl, rfl⟩
/-- What is asked for first; nil: nothing. -/
def firstL (l : List Pt) : Option Pt := match l.getLast? with
  | none => none
  | some x => if (bareP x).k = 0 then none else some x
inductive FirstPost (wb w : World) (l : List Pt) (e : Ending) (w' : World) : Prop
  | none (he : e = .returned (.pointer none)) (hw : w' = w) (hf : firstL l = none) : FirstPost wb w l e w'
  | some (b : Nat) (x : Pt) (he : e = .returned (.pointer (some ⟨b, 0, none⟩))) (hw : w' = w) (hf : firstL l = some x) (hp : PrtIn wb (some ⟨b, 0, none⟩) x) : FirstPost wb w l e w'
theorem first_any (wb w : World) (p : Option Addr) (cap : Nat) (l : List Pt) (hp : LineAt wb w p l) : Calls Try.prog 27 #[.slice p l.length cap] w fun e w' => FirstPost wb w l e w' := by
  by_cases h0 : l.length = 0
  · have hl : l = [] := List.eq_nil_of_length_eq_zero h0
    subst hl
    have Q : Hid (FirstPost wb w [] (.returned (.pointer none)) w) := FirstPost.none rfl rfl rfl
    have Hcall : Hid _ := matchesAll_any w p 0 cap
    clear hp h0
    simp only [List.length_nil] at *
    go_enter Try.func27, Try.ntmps27
    go_wp2_with fail
    refine Calls.mono Hcall.out ?_
    rintro e1 w1 ⟨rfl, rfl⟩
    go_wp2
    go_ret
    exact Q.out
  · have hlast : l.getLast? = some (l[l.length - 1]'(by omega)) := by rw [List.getLast?_eq_getElem?, List.getElem?_eq_getElem]
    obtain ⟨b, o, v, rfl, hc, hv⟩ := hp.get (l.length - 1) (by omega)
    generalize hx : l[l.length - 1]'(by omega) = x at *
    have Q : Hid (FirstPost wb w l (.returned (.pointer v)) w) := by
      by_cases hk : (bareP x).k = 0
      · obtain rfl := hv.none_ hk
        exact FirstPost.none rfl rfl (by unfold firstL; rw [hlast]; simp [hk])
      · obtain ⟨b', p', cap', rfl, _⟩ := hv.open_ hk
        exact FirstPost.some b' x rfl rfl (by unfold firstL; rw [hlast]; simp [hk]) hv
    have hm := hp.len
    unfold maxLen at hm
    have hbl := World.block_lt_of_cell? _ _ hc
    obtain ⟨n, hn⟩ : ∃ n, l.length = n + 1 := ⟨l.length - 1, by omega⟩
    have Hcall : Hid _ := matchesAll_any w (some ⟨b, o, none⟩) l.length cap
    rw [hn] at Hcall hc ⊢
    have hz : decide (n + 1 = 0) = false := by simp
    rw [hz] at Hcall
    simp only [Nat.add_sub_cancel] at hc
    have hwr : IntKind.i64.wrap ((n + 1 : Nat) - 1 : Int) = n := by rw [IntKind.wrap_i64]; omega
    have hlt : (n : Int) < (n + 1 : Nat) := by omega
    clear hp hv hx h0 hlast hz
    go_enter Try.func27, Try.ntmps27
    go_wp2_with fail
    refine Calls.mono Hcall.out ?_
    rintro e1 w1 ⟨rfl, rfl⟩
    clear Hcall
    go_wp2
    go_ret
    exact Q.out
/-- The line without its first pattern. -/
inductive RestlPost (wb w : World) (l : List Pt) (e : Ending) (w' : World) : Prop
  | mk (q : Option Addr) (cap : Nat) (he : e = .returned (.slice q l.dropLast.length cap)) (hc : l.dropLast.length ≤ cap) (hf : l ≠ [] → cap = l.dropLast.length) (hn : q = none → cap = 0) (hR : LineAt wb w q l.dropLast) (hq : ∀ b, q = some b → l ≠ [] → b.block < w.heap.size) (hw : w' = w) : RestlPost wb w l e w'
theorem restl_any (wb w : World) (p : Option Addr) (cap : Nat) (l : List Pt) (hp : LineAt wb w p l) (hcap : l.length ≤ cap) (hpn : p = none → cap = 0) : Calls Try.prog 32 #[.slice p l.length cap] w fun e w' => RestlPost wb w l e w' := by
  by_cases h0 : l.length = 0
  · have hl : l = [] := List.eq_nil_of_length_eq_zero h0
    subst hl
    have Q : Hid (RestlPost wb w [] (.returned (.slice p 0 cap)) w) := RestlPost.mk p cap rfl (Nat.zero_le _) (fun h => absurd rfl h) hpn (LineAt.nil _ _ _) (fun _ _ h => absurd rfl h) rfl
    have Hcall : Hid _ := matchesAll_any w p 0 cap
    clear hp h0 hpn
    simp only [List.length_nil] at *
    go_enter Try.func32, Try.ntmps32
    go_wp2_with fail
    refine Calls.mono Hcall.out ?_
    rintro e1 w1 ⟨rfl, rfl⟩
    go_wp2
    go_ret
    exact Q.out
  · obtain ⟨b, o, v, rfl, hc, hv⟩ := hp.get (l.length - 1) (by omega)
    obtain ⟨n, hn⟩ : ∃ n, l.length = n + 1 := ⟨l.length - 1, by omega⟩
    have hm := hp.len
    unfold maxLen at hm
    have hbl := World.block_lt_of_cell? _ _ hc
    have hdl : l.dropLast.length = n := by simp [hn]
    have Q : Hid (RestlPost wb w l (.returned (.slice (some ⟨b, o, none⟩) n n)) w) := by
      refine RestlPost.mk (some ⟨b, o, none⟩) n (by rw [hdl]) (by omega) (fun _ => hdl.symm) (fun h => by cases h) ⟨by unfold maxLen; omega, fun i hi => ?_⟩ (fun a ha _ => by cases ha; exact hbl) rfl
      obtain ⟨b', o', v', h1, h2, h3⟩ := hp.get i (by simp at hi; omega)
      exact ⟨b', o', v', h1, h2, by simpa using h3⟩
    have Hcall : Hid _ := matchesAll_any w (some ⟨b, o, none⟩) l.length cap
    rw [hn] at Hcall hcap ⊢
    have hz : decide (n + 1 = 0) = false := by simp
    rw [hz] at Hcall
    have hwr : IntKind.i64.wrap ((n + 1 : Nat) - 1 : Int) = n := by rw [IntKind.wrap_i64]; omega
    have h1 : (n : Int) ≤ (cap : Int) := by omega
    clear hp hv h0 hz hc hdl hpn
    go_enter Try.func32, Try.ntmps32
    go_wp2_with fail
    refine Calls.mono Hcall.out ?_
    rintro e1 w1 ⟨rfl, rfl⟩
    clear Hcall
    go_wp2
    go_ret
    exact Q.out
/-- Without what everything matches at the line's front. -/
def trimL : List Pt → List Pt
  | [] => []
  | x :: r => if (bareP x).k = 0 then trimL r else x :: r
inductive TrimPost (wb w : World) (p : Option Addr) (l : List Pt) (e : Ending) (w' : World) : Prop
  | mk (q : Option Addr) (cap : Nat) (he : e = .returned (.slice q (trimL l).length cap)) (hc : (trimL l).length ≤ cap) (hn : q = none → cap = 0) (hR : LineAt wb w q (trimL l)) (hq : ∀ b, q = some b → ∃ a : Addr, p = some a ∧ a.block = b.block) (hw : w' = w) : TrimPost wb w p l e w'
theorem trimmed_any (wb w : World) (p : Option Addr) (cap : Nat) (l : List Pt) (hp : LineAt wb w p l) (hcap : l.length ≤ cap) (hpn : p = none → cap = 0) : Calls Try.prog 24 #[.slice p l.length cap] w fun e w' => TrimPost wb w p l e w' := by
  go_enter Try.func24, Try.ntmps24
  go_wp2_with fail
  go_loopg [0] l.length (fun g v wr => ∃ (q : Option Addr) (m : List Pt) (c : Nat), v = .slice q m.length c ∧ g = m.length ∧ wr = w ∧ Hid (m.length ≤ c ∧ (q = none → c = 0) ∧ LineAt wb w q m ∧ trimL m = trimL l ∧ ∀ b, q = some b → ∃ a : Addr, p = some a ∧ a.block = b.block))
  case atStart => exact ⟨p, l, cap, rfl, rfl, rfl, hcap, hpn, hp, rfl, fun b hb => ⟨b, hb, rfl⟩⟩
  case round =>
    obtain ⟨q, m, c, rfl, rfl, rfl, HL⟩ := hrel
    obtain ⟨q1, q2, q3, q4, q5⟩ := HL.out
    clear HL
    cases m with
    | nil =>
      have Q : Hid (TrimPost wb wr p l (.returned (.slice q 0 c)) wr) := by
        rw [show trimL [] = [] from rfl] at q4
        exact TrimPost.mk q c (by rw [← q4]; rfl) (by rw [← q4]; exact Nat.zero_le _) q2 (by rw [← q4]; exact q3) q5 rfl
      clear q1 q2 q3 q4 q5 hp hcap hpn
      simp only [List.length_nil] at *
      go_wp2
      go_ret
      exact Q.out
    | cons x r =>
      obtain ⟨b, o, v, rfl, hc, hv⟩ := q3.get 0 (by simp)
      simp only [Nat.add_zero, List.getElem_cons_zero] at hc hv
      have hbl := World.block_lt_of_cell? _ _ hc
      have hm := q3.len
      unfold maxLen at hm
      simp only [List.length_cons] at *
      by_cases hk : (bareP x).k = 0
      · obtain rfl := hv.none_ hk
        have Q : Hid (∀ q', (r.length ≠ 0 → q' = some ⟨b, o + 1, none⟩) → (q' = none → c - 1 = 0) → (r.length ≤ c - 1 ∧ (q' = none → c - 1 = 0) ∧ LineAt wb wr q' r ∧ trimL r = trimL l)) := fun q' hq' hqn => by
          refine ⟨by omega, hqn, ⟨by unfold maxLen; omega, fun i hi => ?_⟩, by rw [← q4, trimL, if_pos hk]⟩
          obtain ⟨b', o', v', h1, h2, h3⟩ := q3.get (i + 1) (by simp; omega)
          cases h1
          refine ⟨b, o + 1, v', hq' (by omega), ?_, by simpa using h3⟩
          rw [show o + 1 + i = o + (i + 1) by omega]
          exact h2
        have Q5 : Hid (∀ (o' : Addr), o'.block = b → ∀ b', some o' = some b' → ∃ a : Addr, p = some a ∧ a.block = b'.block) := fun o' ho' b' hb' => by
          cases hb'
          obtain ⟨a, h1, h2⟩ := q5 _ rfl
          exact ⟨a, h1, h2.trans ho'.symm⟩
        clear q2 q3 q4 q5 hp hcap hpn hv
        by_cases hc1 : c = 1
        · subst hc1
          have hr0 : r = [] := List.eq_nil_of_length_eq_zero (by omega)
          subst hr0
          have Q' : Hid _ := Q.out (some ⟨b, o, none⟩) (fun h => absurd rfl h) (fun h => by cases h)
          clear Q
          go_wp2
          go_roundg 0
          case measure => omega
          case rel => exact ⟨some ⟨b, o, none⟩, [], 0, rfl, rfl, rfl, Nat.zero_le _, fun _ => rfl, Q'.out.2.2.1, Q'.out.2.2.2, Q5.out _ rfl⟩
        · have hc2 : 1 < c := by omega
          have Q' : Hid _ := Q.out (some ⟨b, o + 1, none⟩) (fun _ => rfl) (fun h => by cases h)
          clear Q
          go_wp2
          go_roundg r.length
          case measure => omega
          case rel => exact ⟨some ⟨b, o + 1, none⟩, r, c - 1, rfl, rfl, rfl, Q'.out.1, Q'.out.2.1, Q'.out.2.2.1, Q'.out.2.2.2, Q5.out _ rfl⟩
      · obtain ⟨b', p', cap', rfl, _⟩ := hv.open_ hk
        have Q : Hid (TrimPost wb wr p l (.returned (.slice (some ⟨b, o, none⟩) (r.length + 1) c)) wr) := by
          rw [trimL, if_neg hk] at q4
          exact TrimPost.mk (some ⟨b, o, none⟩) c (by rw [← q4]; rfl) (by rw [← q4]; exact q1) q2 (by rw [← q4]; exact q3) q5 rfl
        clear q2 q3 q4 q5 hp hcap hpn hv
        go_wp2
        go_ret
        exact Q.out
end
end Go.Proofs.Ytjhfomfaddfklaa
