/-
  The program's layer matches: a row's line lies in blocks of its own; useful by its derivation.
-/
import Derived.Test.YtjhfomfaddfklaaMD
import Derived.Test.YtjhfomfaddfklaaMA
namespace Go.Proofs.Ytjhfomfaddfklaa
open Go.RowKit Go.Deep Go.Shelf
theorem useful_walk {m : List (List Pt)} {own : List Pt} {b : Bool} (h : PU m own b) : UseOk m own b := by
  induction h with
  | none own => exact use_none own
  | all m own hn => exact use_all m own hn
  | head m own x b hs h0 hn hf h ih => exact use_head m own x b hs h0 hn hf ih
  | rest m own b hs h0 hn hf ha h ih => exact use_open m own b hs h0 hn hf (fun _ => ih) (fun h => by rw [ha] at h; cases h)
  | some m own pre p post hs h0 hn hf ha he hpre hp ihpre ihp =>
    refine use_open m own true hs h0 hn hf (fun h => by rw [ha] at h; cases h) (fun _ => ?_)
    classical
    refine ⟨fun x => decide (x = p), ?_, fun x hx pre' post' hsp hall => ?_⟩
    · symm
      rw [List.any_eq_true]
      exact ⟨p, by rw [he]; simp, by simp⟩
    · by_cases hxp : x = p
      · subst hxp
        simp only [decide_true]
        exact ihp
      · show UseOk _ _ (decide (x = p))
        rw [decide_eq_false hxp]
        refine ihpre x ?_
        rw [he] at hsp
        rcases List.append_eq_append_iff.1 hsp with ⟨a, h1, h2⟩ | ⟨c, h1, h2⟩
        · cases a with
          | nil =>
            simp at h2
            exact absurd h2.1.symm hxp
          | cons y a =>
            simp only [List.cons_append, List.cons.injEq] at h2
            have := hall p (by rw [h1, ← h2.1]; simp)
            simp at this
        · cases c with
          | nil =>
            simp at h2
            exact absurd h2.1 hxp
          | cons y c =>
            simp only [List.cons_append, List.cons.injEq] at h2
            rw [h1, ← h2.1]
            simp
  | no m own hs h0 hn hf ha h ih =>
    refine use_open m own false hs h0 hn hf (fun h => by rw [ha] at h; cases h) (fun _ => ⟨fun _ => false, by simp, fun x hx _ _ _ _ => ih x hx⟩)
inductive Trim2 (w : World) (p : Option Addr) (l : List Pt) (e : Ending) (w' : World) : Prop
  | mk (q : Option Addr) (cap : Nat) (he : e = .returned (.slice q (trimL l).length cap)) (hc : (trimL l).length ≤ cap) (hn : q = none → cap = 0) (hR : ∀ wb' w'', LineAt wb' w'' p l → LineAt wb' w'' q (trimL l)) (hq : ∀ b, q = some b → ∃ a : Addr, p = some a ∧ a.block = b.block) (hw : w' = w) : Trim2 w p l e w'
section
set_option maxHeartbeats 4000000
set_option maxRecDepth 100000
theorem trimmed_any2 (wb w : World) (p : Option Addr) (cap : Nat) (l : List Pt) (hp : LineAt wb w p l) (hcap : l.length ≤ cap) (hpn : p = none → cap = 0) : Calls Try.prog 24 #[.slice p l.length cap] w fun e w' => Trim2 w p l e w' := by
  go_enter Try.func24, Try.ntmps24
  go_wp2_with fail
  go_loopg [0] l.length (fun g v wr => ∃ (q : Option Addr) (m : List Pt) (c : Nat), v = .slice q m.length c ∧ g = m.length ∧ wr = w ∧ Hid (m.length ≤ c ∧ (q = none → c = 0) ∧ LineAt wb w q m ∧ trimL m = trimL l ∧ (∀ b, q = some b → ∃ a : Addr, p = some a ∧ a.block = b.block) ∧ ∀ wb' w', LineAt wb' w' p l → LineAt wb' w' q m))
  case atStart => exact ⟨p, l, cap, rfl, rfl, rfl, hcap, hpn, hp, rfl, fun b hb => ⟨b, hb, rfl⟩, fun _ _ h => h⟩
  case round =>
    obtain ⟨q, m, c, rfl, rfl, rfl, HL⟩ := hrel
    obtain ⟨q1, q2, q3, q4, q5, q6⟩ := HL.out
    clear HL
    cases m with
    | nil =>
      have Q : Hid (Trim2 wr p l (.returned (.slice q 0 c)) wr) := by
        rw [show trimL [] = [] from rfl] at q4
        exact Trim2.mk q c (by rw [← q4]; rfl) (by rw [← q4]; exact Nat.zero_le _) q2 (by rw [← q4]; exact q6) q5 rfl
      clear q1 q2 q3 q4 q5 q6 hp hcap hpn
      simp only [List.length_nil] at *
      go_wp2
      go_ret
      exact Q.out
    | cons x r =>
      obtain ⟨b, o, v, rfl, hc, hv⟩ := q3.get 0 (by simp)
      simp only [Nat.add_zero, List.getElem_cons_zero] at hc hv
      have hbl := World.block_lt_of_cell? _ _ hc
      have hm := q3.len
      unfold maxLen at hm
      simp only [List.length_cons] at *
      by_cases hk : (bareP x).k = 0
      · obtain rfl := hv.none_ hk
        have Q : Hid (∀ q', (r.length ≠ 0 → q' = some ⟨b, o + 1, none⟩) → (q' = none → c - 1 = 0) → (r.length ≤ c - 1 ∧ (q' = none → c - 1 = 0) ∧ LineAt wb wr q' r ∧ trimL r = trimL l)) := fun q' hq' hqn => by
          refine ⟨by omega, hqn, ⟨by unfold maxLen; omega, fun i hi => ?_⟩, by rw [← q4, trimL, if_pos hk]⟩
          obtain ⟨b', o', v', h1, h2, h3⟩ := q3.get (i + 1) (by simp; omega)
          cases h1
          refine ⟨b, o + 1, v', hq' (by omega), ?_, by simpa using h3⟩
          rw [show o + 1 + i = o + (i + 1) by omega]
          exact h2
        have Q6 : Hid (∀ q', (r.length ≠ 0 → q' = some ⟨b, o + 1, none⟩) → ∀ wb' w', LineAt wb' w' p l → LineAt wb' w' q' r) := fun q' hq' wb' w' h => by
          have h6 := q6 wb' w' h
          refine ⟨by unfold maxLen; omega, fun i hi => ?_⟩
          obtain ⟨b', o', v', h1, h2, h3⟩ := h6.get (i + 1) (by simp; omega)
          cases h1
          refine ⟨b, o + 1, v', hq' (by omega), ?_, by simpa using h3⟩
          rw [show o + 1 + i = o + (i + 1) by omega]
          exact h2
        have Q5 : Hid (∀ (o' : Addr), o'.block = b → ∀ b', some o' = some b' → ∃ a : Addr, p = some a ∧ a.block = b'.block) := fun o' ho' b' hb' => by
          cases hb'
          obtain ⟨a, h1, h2⟩ := q5 _ rfl
          exact ⟨a, h1, h2.trans ho'.symm⟩
        clear q2 q3 q4 q5 q6 hp hcap hpn hv
        by_cases hc1 : c = 1
        · subst hc1
          have hr0 : r = [] := List.eq_nil_of_length_eq_zero (by omega)
          subst hr0
          have Q' : Hid _ := Q.out (some ⟨b, o, none⟩) (fun h => absurd rfl h) (fun h => by cases h)
          clear Q
          go_wp2
          go_roundg 0
          case measure => omega
          case rel => exact ⟨some ⟨b, o, none⟩, [], 0, rfl, rfl, rfl, Nat.zero_le _, fun _ => rfl, Q'.out.2.2.1, Q'.out.2.2.2, Q5.out _ rfl, Q6.out _ (fun h => absurd rfl h)⟩
        · have hc2 : 1 < c := by omega
          have Q' : Hid _ := Q.out (some ⟨b, o + 1, none⟩) (fun _ => rfl) (fun h => by cases h)
          clear Q
          go_wp2
          go_roundg r.length
          case measure => omega
          case rel => exact ⟨some ⟨b, o + 1, none⟩, r, c - 1, rfl, rfl, rfl, Q'.out.1, Q'.out.2.1, Q'.out.2.2.1, Q'.out.2.2.2, Q5.out _ rfl, Q6.out _ (fun _ => rfl)⟩
      · obtain ⟨b', p', cap', rfl, _⟩ := hv.open_ hk
        have Q : Hid (Trim2 wr p l (.returned (.slice (some ⟨b, o, none⟩) (r.length + 1) c)) wr) := by
          rw [trimL, if_neg hk] at q4
          exact Trim2.mk (some ⟨b, o, none⟩) c (by rw [← q4]; rfl) (by rw [← q4]; exact q1) q2 (by rw [← q4]; exact q6) q5 rfl
        clear q2 q3 q4 q5 q6 hp hcap hpn hv
        go_wp2
        go_ret
        exact Q.out
/-- A row's line, in blocks of its own. -/
inductive LinePost2 (l : List Pt) (w : World) (e : Ending) (w' : World) : Prop
  | mk (q : Option Addr) (cap : Nat) (he : e = .returned (.slice q (trimL l.reverse).length cap)) (hc : (trimL l.reverse).length ≤ cap) (hn : q = none → cap = 0) (hf : LFresh w.heap.size w' q (trimL l.reverse)) (hb : Below w.heap.size w w') : LinePost2 l w e w'
theorem lineOf_any2 (wb w : World) (l : List Pt) (hg : ∀ x ∈ l, x.good = true) (hlen : l.length ≤ 1000) (p : Option Addr) (cap : Nat) (hbw : Below wb.heap.size wb w) (hrow : RowAt wb w p l) :
    Calls Try.prog 14 #[.slice p l.length cap] w fun e w' => LinePost2 l w e w' := by
  have Hcall : Hid _ := partsOf_any wb w l hg hlen p cap hbw hrow
  clear hrow hbw hg
  go_enter Try.func14, Try.ntmps14
  go_wp2_with fail
  refine Calls.mono Hcall.out ?_
  rintro e1 w1 ⟨q, qc, rfl, hqc, hqn, hf1, hb1, hq1⟩
  have Hcall2 : Hid _ := trimmed_any2 w1 w1 q qc l.reverse hf1.in_ (by simpa using hqc) hqn
  rw [List.length_reverse] at Hcall2
  clear Hcall
  go_wp2_with fail
  refine Calls.mono Hcall2.out ?_
  rintro e2 w2 ⟨q2, qc2, rfl, h1, h2, h3, h4, rfl⟩
  have Q : Hid (LinePost2 l w (.returned (.slice q2 (trimL l.reverse).length qc2)) w2) := LinePost2.mk q2 qc2 rfl h1 h2 (fun w'' h'' => h3 w'' w'' (hf1 w'' h'')) hb1
  clear h1 h2 h3 h4 hf1 hb1 hq1 hqn hqc Hcall2
  go_wp2
  go_ret
  exact Q.out
end
end Go.Proofs.Ytjhfomfaddfklaa
