/-
  What is not useful is matched by the others, value by value: in plain words, for the sorts of values of the law Covered.
-/
import Derived.Test.YtjhfomfaddfklaaU15
namespace Go.Proofs.Ytjhfomfaddfklaa
open Go.RowKit Go.Deep
/-- The sorts of values; p12 and p13 are the pairs within them. -/
inductive Sr where
  | num | two | opt | lst | p12 | thr | p13
/-- How many constructors a sort has. -/
def Sr.cnt : Sr → Int
  | .thr => 3
  | _ => 2
/-- The sorts of the parts of a value of a sort. -/
def Sr.args : Sr → Int → List Sr
  | .num, _ => []
  | .two, _ => []
  | .opt, n => if n = 1 then [.num] else []
  | .lst, n => if n = 1 then [.p13] else []
  | .p12, _ => [.two, .opt]
  | .thr, n => if n = 1 then [.two] else if n = 2 then [.p12] else []
  | .p13, _ => [.two, .lst]
def Sr.kind : Sr → Int
  | .num => 3
  | .p12 => 5
  | .p13 => 5
  | _ => 6
inductive AllT (R : Sr → Pt → Prop) : List Sr → List Pt → Prop
  | nil : AllT R [] []
  | cons {t : Sr} {ts : List Sr} {x : Pt} {l : List Pt} (h : R t x) (r : AllT R ts l) : AllT R (t :: ts) (x :: l)
theorem AllT.len {R : Sr → Pt → Prop} {ts : List Sr} {l : List Pt} (h : AllT R ts l) : l.length = ts.length := by
  induction h with
  | nil => rfl
  | cons _ _ ih => simp [ih]
theorem AllT.app {R : Sr → Pt → Prop} {ts us : List Sr} {l r : List Pt} (h : AllT R ts l) (k : AllT R us r) : AllT R (ts ++ us) (l ++ r) := by
  induction h with
  | nil => exact k
  | cons h _ ih => exact AllT.cons h ih
/-- A pattern of a sort. -/
inductive WT : Sr → Pt → Prop
  | any (t : Sr) (k n o a : Int) (s : ByteArray) (hk : k = 0 ∨ k = 1) : WT t (.mk k n o a s [])
  | as_ (t : Sr) (n o a : Int) (s : ByteArray) (x : Pt) (h : WT t x) : WT t (.mk 2 n o a s [x])
  | mk (t : Sr) (n o a : Int) (s : ByteArray) (kids : List Pt) (hk : ∀ i (hi : i < kids.length) (hi' : i < (t.args n).length), WT ((t.args n)[i]'hi') (kids[i]'hi)) (hl : kids.length = (t.args n).length) (h5 : t.kind = 5 → n = 0) (h6 : t.kind = 6 → 0 ≤ n ∧ n < t.cnt ∧ o = t.cnt) : WT t (.mk t.kind n o a s kids)
/-- A value of a sort. -/
inductive VT : Sr → Pt → Prop
  | mk (t : Sr) (n o a : Int) (s : ByteArray) (kids : List Pt) (hk : ∀ i (hi : i < kids.length) (hi' : i < (t.args n).length), VT ((t.args n)[i]'hi') (kids[i]'hi)) (hl : kids.length = (t.args n).length) (h5 : t.kind = 5 → n = 0) (h6 : t.kind = 6 → 0 ≤ n ∧ n < t.cnt) : VT t (.mk t.kind n o a s kids)
theorem AllT.of {R : Sr → Pt → Prop} : ∀ (ts : List Sr) (l : List Pt), l.length = ts.length → (∀ i (hi : i < l.length) (hi' : i < ts.length), R (ts[i]'hi') (l[i]'hi)) → AllT R ts l
  | [], [], _, _ => AllT.nil
  | [], _ :: _, h, _ => by simp at h
  | _ :: _, [], h, _ => by simp at h
  | t :: ts, x :: l, h, hk => AllT.cons (hk 0 (by simp) (by simp)) (AllT.of ts l (by simpa using h) (fun i hi hi' => by have := hk (i + 1) (by simp; omega) (by simp; omega); simpa using this))
mutual
/-- Does a value match a pattern? -/
def matchP : Pt → Pt → Bool
  | .mk k n _ _ _ kids, v => if k = 0 ∨ k = 1 then true else if k = 2 then matchA kids v else decide (n = v.n) && (decide (k = v.k) && (decide (kids.length = v.kids.length) && matchL kids v.kids))
def matchA : List Pt → Pt → Bool
  | [], _ => false
  | x :: _, v => matchP x v
def matchL : List Pt → List Pt → Bool
  | [], _ => true
  | _ :: _, [] => false
  | x :: r, v :: vs => matchP x v && matchL r vs
end
theorem match_bare : ∀ (x : Pt), x.good = true → ∀ v, matchP x v = matchP (bareP x) v
  | .mk k n o a s [], h, v => by
    by_cases h1 : k = 1
    · rw [bareP_var h1, matchP, if_pos (Or.inr h1)]
      simp [Pt.any, matchP]
    · rw [bareP, if_neg h1]
  | .mk k n o a s (x :: r), h, v => by
    by_cases h2 : k = 2
    · rw [bareP_as h2, matchP, if_neg (by omega), if_pos h2, matchA]
      exact match_bare x ((good_parts h).2.2 x (by simp)) v
    · by_cases h1 : k = 1
      · have := okP_var (good_parts h).1 (Or.inr h1)
        simp at this
      · rw [bareP_else h1 h2]
theorem wt_bare {t : Sr} {x : Pt} (h : WT t x) : WT t (bareP x) := by
  induction h with
  | any t k n o a s hk =>
    rcases hk with hk | hk
    · rw [bareP_else (by omega) (by omega)]
      exact WT.any t k n o a s (Or.inl hk)
    · rw [bareP_var hk]
      exact WT.any t 0 0 0 0 _ (Or.inl rfl)
  | as_ t n o a s x h ih => rw [bareP_as rfl]; exact ih
  | mk t n o a s kids hk hl h5 h6 ih =>
    have : t.kind ≠ 1 ∧ t.kind ≠ 2 := by cases t <;> simp [Sr.kind]
    rw [bareP_else this.1 this.2]
    exact WT.mk t n o a s kids hk hl h5 h6
/-- A pattern that asks for something. -/
theorem wt_head {t : Sr} {p : Pt} (h : WT t p) (h0 : p.k ≠ 0) (h1 : p.k ≠ 1) (h2 : p.k ≠ 2) : p.k = t.kind ∧ AllT WT (t.args p.n) p.kids ∧ (t.kind = 5 → p.n = 0) ∧ (t.kind = 6 → p.o = t.cnt) := by
  cases h with
  | any t k n o a s hk => simp only [Pt.k] at h0 h1; omega
  | as_ t n o a s x h => simp [Pt.k] at h2
  | mk t n o a s kids hk hl h5 h6 => exact ⟨rfl, AllT.of _ _ hl hk, h5, fun h => (h6 h).2.2⟩
theorem vt_parts {t : Sr} {v : Pt} (h : VT t v) : v.k = t.kind ∧ AllT VT (t.args v.n) v.kids ∧ (t.kind = 5 → v.n = 0) ∧ (t.kind = 6 → 0 ≤ v.n ∧ v.n < t.cnt) := by
  cases h with
  | mk t n o a s kids hk hl h5 h6 => exact ⟨rfl, AllT.of _ _ hl hk, h5, h6⟩
theorem matchL_app : ∀ (l a r b : List Pt), l.length = a.length → matchL (l ++ r) (a ++ b) = (matchL l a && matchL r b)
  | [], [], r, b, _ => by simp [matchL]
  | [], _ :: _, _, _, h => by simp at h
  | _ :: _, [], _, _, h => by simp at h
  | x :: l, y :: a, r, b, h => by
    rw [List.cons_append, List.cons_append, matchL, matchL, matchL_app l a r b (by simpa using h), Bool.and_assoc]
theorem matchL_any : ∀ (n : Nat) (a : List Pt), a.length = n → matchL (List.replicate n Pt.any) a = true
  | 0, _, _ => by simp [matchL]
  | n + 1, [], h => by simp at h
  | n + 1, x :: a, h => by
    rw [List.replicate_succ, matchL, matchL_any n a (by simpa using h)]
    simp [Pt.any, matchP]
theorem any_typed : ∀ (ts : List Sr), AllT WT ts (List.replicate ts.length Pt.any)
  | [] => AllT.nil
  | _ :: ts => AllT.cons (WT.any _ 0 0 0 0 _ (Or.inl rfl)) (any_typed ts)
theorem rests_mem {h : Pt} : ∀ (m : List (List Pt)) (r' : List Pt), r' ∈ restsP h m → ∃ y r, (y :: r) ∈ m ∧ restP y r h = (r', true)
  | [], r', hr => by simp [restsP] at hr
  | [] :: m, r', hr => by
    rw [restsP] at hr
    obtain ⟨y, r, h1, h2⟩ := rests_mem m r' hr
    exact ⟨y, r, by simp [h1], h2⟩
  | (x :: s) :: m, r', hr => by
    rw [restsP] at hr
    split at hr
    · rename_i ht
      rcases List.mem_cons.1 hr with rfl | hr
      · exact ⟨x, s, by simp, by rw [← ht]⟩
      · obtain ⟨y, r, h1, h2⟩ := rests_mem m r' hr
        exact ⟨y, r, by simp [h1], h2⟩
    · obtain ⟨y, r, h1, h2⟩ := rests_mem m r' hr
      exact ⟨y, r, by simp [h1], h2⟩
theorem default_mem : ∀ (m : List (List Pt)) (r : List Pt), r ∈ defaultP m → ∃ y, (y :: r) ∈ m ∧ (bareP y).k = 0
  | [], r, hr => by simp [defaultP] at hr
  | [] :: m, r, hr => by
    rw [defaultP] at hr
    obtain ⟨y, h1, h2⟩ := default_mem m r hr
    exact ⟨y, by simp [h1], h2⟩
  | (x :: s) :: m, r, hr => by
    rw [defaultP] at hr
    split at hr
    · rename_i ht
      rcases List.mem_cons.1 hr with rfl | hr
      · exact ⟨x, by simp, ht⟩
      · obtain ⟨y, h1, h2⟩ := default_mem m r hr
        exact ⟨y, by simp [h1], h2⟩
    · obtain ⟨y, h1, h2⟩ := default_mem m r hr
      exact ⟨y, by simp [h1], h2⟩
theorem match_any {y v : Pt} (hg : y.good = true) (h : (bareP y).k = 0) : matchP y v = true := by
  rw [match_bare y hg]
  generalize bareP y = z at *
  cases z with
  | mk k n o a s l =>
    simp only [Pt.k] at h
    rw [matchP, if_pos (Or.inl h)]
/-- Rows of sorts. -/
def Typed (ts : List Sr) (m : List (List Pt)) : Prop := ∀ r ∈ m, AllT WT ts r
theorem alike_num {t : Sr} {p h : Pt} (ha : alikeP p h = true) (hp : p.k = t.kind) (hp5 : t.kind = 5 → p.n = 0) (hh5 : t.kind = 5 → h.n = 0) : p.n = h.n := by
  unfold alikeP at ha
  simp only [Bool.and_eq_true, decide_eq_true_eq] at ha
  obtain ⟨h1, h2, h3⟩ := ha
  by_cases h5 : p.k = 5
  · rw [hp5 (by omega), hh5 (by omega)]
  · rw [if_neg h5] at h3
    by_cases h4 : p.k = 4
    · have : t.kind ≠ 4 := by cases t <;> simp [Sr.kind]
      omega
    · rw [if_neg h4] at h3
      simpa using h3
/-- What the rests say is said of the rows. -/
theorem rests_typed {t : Sr} {ts : List Sr} {m : List (List Pt)} {h : Pt} (hT : Typed (t :: ts) m) (hg : ∀ r ∈ m, ∀ x ∈ r, x.good = true) (hl : h.kids.length = (t.args h.n).length) (h5 : t.kind = 5 → h.n = 0) : Typed (t.args h.n ++ ts) (restsP h m) := by
  intro r' hr
  obtain ⟨y, r, h1, h2⟩ := rests_mem m r' hr
  have hy := hT _ h1
  cases hy with
  | cons hy hr =>
  have hyg := hg _ h1 y (by simp)
  unfold restP at h2
  split at h2
  · have e : r' = List.replicate h.kids.length Pt.any ++ r := by simpa using (congrArg Prod.fst h2).symm
    rw [e, hl]
    exact (any_typed _).app hr
  · rename_i h0
    have e : r' = (bareP y).kids ++ r := by simpa using (congrArg Prod.fst h2).symm
    have ea : alikeP (bareP y) h = true := by simpa using congrArg Prod.snd h2
    have hk2 := bare_kind y hyg
    obtain ⟨w1, w2, w3, _⟩ := wt_head (wt_bare hy) h0 hk2.1 hk2.2
    have en := alike_num ea w1 w3 h5
    rw [e, ← en]
    exact w2.app hr
theorem rests_back {t : Sr} {ts : List Sr} {m : List (List Pt)} {h v : Pt} {vs r' : List Pt} (hT : Typed (t :: ts) m) (hg : ∀ r ∈ m, ∀ x ∈ r, x.good = true) (_ : h.k = t.kind) (h5 : t.kind = 5 → h.n = 0) (hvk : v.k = t.kind) (hvn : h.n = v.n) (hvl : h.kids.length = v.kids.length) (hr : r' ∈ restsP h m) (hm : matchL r' (v.kids ++ vs) = true) : ∃ r ∈ m, matchL r (v :: vs) = true := by
  obtain ⟨y, r, h1, h2⟩ := rests_mem m r' hr
  have hy := hT _ h1
  cases hy with
  | cons hy hrt =>
  have hyg := hg _ h1 y (by simp)
  refine ⟨y :: r, h1, ?_⟩
  unfold restP at h2
  split at h2
  · rename_i h0
    have e : r' = List.replicate h.kids.length Pt.any ++ r := by simpa using (congrArg Prod.fst h2).symm
    rw [e, matchL_app _ _ _ _ (by simp [hvl]), Bool.and_eq_true] at hm
    rw [matchL, match_any hyg h0, hm.2]
    rfl
  · rename_i h0
    have e : r' = (bareP y).kids ++ r := by simpa using (congrArg Prod.fst h2).symm
    have ea : alikeP (bareP y) h = true := by simpa using congrArg Prod.snd h2
    have hk2 := bare_kind y hyg
    obtain ⟨w1, w2, w3, _⟩ := wt_head (wt_bare hy) h0 hk2.1 hk2.2
    have en := alike_num ea w1 w3 h5
    have el : (bareP y).kids.length = h.kids.length := by
      unfold alikeP at ea
      simp only [Bool.and_eq_true, decide_eq_true_eq] at ea
      exact ea.2.1
    rw [e, matchL_app _ _ _ _ (by omega), Bool.and_eq_true] at hm
    rw [matchL, match_bare y hyg, hm.2, Bool.and_true]
    generalize bareP y = z at *
    cases z with
    | mk k n o a s l =>
      change ¬ k = 0 at h0
      change k ≠ 1 ∧ k ≠ 2 at hk2
      change k = t.kind at w1
      change n = h.n at en
      change l.length = h.kids.length at el
      change matchL l v.kids = true ∧ matchL r vs = true at hm
      rw [matchP, if_neg (by omega), if_neg (by omega), hm.1]
      have e1 : n = v.n := by omega
      have e2 : k = v.k := by omega
      have e3 : l.length = v.kids.length := by omega
      simp [e1, e2, e3]
theorem covers : ∀ (n : Nat) (q : List Pt) (m : List (List Pt)) (ts : List Sr) (vs : List Pt), usefulF n m q = false → consM m + Pt.consL q < n → Rect m q.length → (∀ x ∈ q, x.good = true) → AllT WT ts q → Typed ts m → AllT VT ts vs → matchL q vs = true → ∃ r ∈ m, matchL r vs = true := by
  intro n
  induction n with
  | zero => intro q m ts vs _ h; omega
  | succ n ih =>
    intro q
    induction q with
    | nil =>
      intro m ts vs hu _ hR _ hq _ hv _
      cases hq
      cases hv
      have hu2 : decide (m.length = 0) = false := hu
      have hm : m.length ≠ 0 := by simpa using hu2
      cases m with
      | nil => simp at hm
      | cons r m =>
        have := (hR.row r (by simp)).1
        have hr : r = [] := List.eq_nil_of_length_eq_zero (by simpa using this)
        subst hr
        exact ⟨[], by simp, by simp [matchL]⟩
    | cons x q ihq =>
      intro m ts vs hu hcn hR hgq hq hT hv hm
      cases hq with
      | @cons t ts _ _ hx hqt =>
      cases hv with
      | @cons _ _ v vs hvv hvt =>
      have hxg := hgq x (by simp)
      have hqg : ∀ y ∈ q, y.good = true := fun y hy => hgq y (by simp [hy])
      have hmg : ∀ r ∈ m, ∀ x ∈ r, x.good = true := fun r hr => (hR.row r hr).2
      have hR' : Rect m (q.length + 1) := by simpa using hR
      have hu2 : usefulQ (usefulF n) (x :: q) m = false := hu
      rw [matchL, Bool.and_eq_true] at hm
      obtain ⟨v1, v2, v3, v4⟩ := vt_parts hvv
      rw [usefulQ] at hu2
      split at hu2
      · rename_i h0
        have hc0 := cons_zero hxg h0
        rw [Pt.consL] at hcn
        split at hu2
        · rename_i hwh
          -- a head that is as the value
          have hhead : ∃ h ∈ firstsFrom [] m, h.k = t.kind ∧ h.n = v.n ∧ h.kids.length = v.kids.length ∧ (t.kind = 5 → h.n = 0) := by
            have hall : ∀ h ∈ firstsFrom [] m, h.k = t.kind ∧ AllT WT (t.args h.n) h.kids ∧ (t.kind = 5 → h.n = 0) ∧ (t.kind = 6 → h.o = t.cnt) := by
              intro h hh
              rcases firsts_mem m [] hh with h1 | ⟨h1, y, r, h2, h3⟩
              · cases h1
              · have hy := hT _ h2
                cases hy with
                | cons hy _ =>
                have hyg := hmg _ h2 y (by simp)
                have hk2 := bare_kind y hyg
                rw [h3] at hk2
                have := wt_bare hy
                rw [h3] at this
                exact wt_head this h1 hk2.1 hk2.2
            generalize firstsFrom [] m = l at *
            cases l with
            | nil => simp [wholeP] at hwh
            | cons h0' tl =>
              obtain ⟨a1, a2, a3, a4⟩ := hall h0' (by simp)
              rw [wholeP] at hwh
              split at hwh
              · rename_i hk5
                have ht5 : t.kind = 5 := by omega
                refine ⟨h0', by simp, a1, by rw [a3 ht5, v3 ht5], ?_, a3⟩
                rw [a2.len, v2.len, a3 ht5, v3 ht5]
              · split at hwh
                · rename_i hk6
                  have ht6 : t.kind = 6 := by omega
                  obtain ⟨w1, w2⟩ := v4 ht6
                  rw [List.all_eq_true] at hwh
                  have := hwh v.n.toNat (by rw [List.mem_range, a4 ht6]; omega)
                  unfold thereP at this
                  rw [List.any_eq_true] at this
                  obtain ⟨y, hy, hyy⟩ := this
                  simp only [Bool.and_eq_true, decide_eq_true_eq] at hyy
                  have hyn : y.n = v.n := by omega
                  obtain ⟨b1, b2, b3, b4⟩ := hall y hy
                  exact ⟨y, hy, b1, hyn, by rw [b2.len, v2.len, hyn], b3⟩
                · cases hwh
          obtain ⟨h, hh, c1, c2, c3, c4⟩ := hhead
          obtain ⟨hgh, hless⟩ := rests_less hR' hh
          have huf : usefulF n (restsP h m) (List.replicate h.kids.length Pt.any ++ q) = false := by
            cases hb : usefulF n (restsP h m) (List.replicate h.kids.length Pt.any ++ q) with
            | false => rfl
            | true =>
              rw [List.any_eq_false] at hu2
              have := hu2 h hh
              rw [hb] at this
              exact absurd rfl this
          have hkl : h.kids.length = (t.args h.n).length := by rw [c3, v2.len, c2]
          obtain ⟨hRr, _⟩ := rests_sub hR' hgh
          obtain ⟨r', hr1, hr2⟩ := ih (List.replicate h.kids.length Pt.any ++ q) (restsP h m) (t.args h.n ++ ts) (v.kids ++ vs) huf (by rw [Pt.consL_app, consL_any]; omega) (by rw [List.length_append, List.length_replicate]; exact hRr) (fun y hy => by
            rcases List.mem_append.1 hy with hy | hy
            · rw [List.eq_of_mem_replicate hy]; exact good_any
            · exact hqg y hy) (by rw [hkl]; exact (any_typed _).app hqt) (rests_typed hT hmg hkl c4) (by rw [c2]; exact v2.app hvt) (by rw [matchL_app _ _ _ _ (by simp [c3]), matchL_any _ _ c3.symm, hm.2]; rfl)
          exact rests_back hT hmg c1 c4 v1 c2 c3 hr1 hr2
        · obtain ⟨hRd, hcd⟩ := default_sub hR'
          have hTd : Typed ts (defaultP m) := fun r hr => by
            obtain ⟨y, h1, _⟩ := default_mem m r hr
            cases hT _ h1 with
            | cons _ h => exact h
          obtain ⟨r, hr1, hr2⟩ := ihq (defaultP m) ts vs hu2 (by omega) hRd hqg hqt hTd hvt hm.2
          obtain ⟨y, h1, h2⟩ := default_mem m r hr1
          exact ⟨y :: r, h1, by rw [matchL, match_any (hmg _ h1 y (by simp)) h2, hr2]; rfl⟩
      · rename_i h0
        have hk2 := bare_kind x hxg
        obtain ⟨w1, w2, w3, _⟩ := wt_head (wt_bare hx) h0 hk2.1 hk2.2
        have hch := cons_head hxg h0
        have hgb := good_bare x hxg
        have hmx := hm.1
        rw [match_bare x hxg] at hmx
        have hpar : (bareP x).n = v.n ∧ (bareP x).kids.length = v.kids.length ∧ matchL (bareP x).kids v.kids = true := by
          generalize bareP x = z at *
          cases z with
          | mk k n o a s l =>
            change ¬ k = 0 at h0
            change k ≠ 1 ∧ k ≠ 2 at hk2
            rw [matchP, if_neg (by omega), if_neg (by omega)] at hmx
            simp only [Bool.and_eq_true, decide_eq_true_eq] at hmx
            exact ⟨hmx.1, hmx.2.2.1, hmx.2.2.2⟩
        obtain ⟨e1, e2, e3⟩ := hpar
        obtain ⟨hRr, hcr⟩ := rests_sub hR' hgb
        have hkl : (bareP x).kids.length = (t.args (bareP x).n).length := w2.len
        rw [Pt.consL] at hcn
        obtain ⟨r', hr1, hr2⟩ := ih ((bareP x).kids ++ q) (restsP (bareP x) m) (t.args (bareP x).n ++ ts) (v.kids ++ vs) hu2 (by rw [Pt.consL_app]; omega) (by rw [List.length_append]; exact hRr) (fun y hy => by
          rcases List.mem_append.1 hy with hy | hy
          · exact (good_kids hgb).2 y hy
          · exact hqg y hy) (w2.app hqt) (rests_typed hT hmg hkl w3) (by rw [e1]; exact v2.app hvt) (by rw [matchL_app _ _ _ _ e2, e3, hm.2]; rfl)
        exact rests_back hT hmg w1 w3 v1 e1 e2 hr1 hr2
end Go.Proofs.Ytjhfomfaddfklaa
