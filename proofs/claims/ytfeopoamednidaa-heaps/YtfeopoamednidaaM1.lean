/-
  The program's heap in plain words: things one behind the other; their words.
-/
import Derived.Test.YtfeopoamednidaaP5
namespace Go.Proofs.Ytfeopoamednidaa
open Go.RowKit Go.Deep
def Th.sz (t : Th) : Nat := t.fs.length + 1
def hdw (m : Int) (t : Th) : Wd := ⟨t.fs.length, m, t.tag, t.kind, 2⟩
def encT (m : Int) (t : Th) : List Wd := hdw m t :: t.fs.map fld
theorem encT_len (m : Int) (t : Th) : (encT m t).length = t.sz := by simp [encT, Th.sz]
/-- The words of things; what their heads are marked with, by their addresses. -/
def encL (mk : Int → Int) : Int → List Th → List Wd
  | _, [] => []
  | a, t :: r => encT (mk a) t ++ encL mk (a + t.sz) r
def total : List Th → Nat
  | [] => 0
  | t :: r => t.sz + total r
/-- What lies at an address. -/
def docOf : Int → List Th → Doc
  | _, [] => fun _ => none
  | a, t :: r => fun x => if x = a then some t else docOf (a + t.sz) r x
def addrs : Int → List Th → List Int
  | _, [] => []
  | a, t :: r => a :: addrs (a + t.sz) r
theorem doc_cons (a : Int) (t : Th) (r : List Th) (x : Int) : docOf a (t :: r) x = if x = a then some t else docOf (a + t.sz) r x := rfl
theorem doc_nil (a : Int) (x : Int) : docOf a [] x = none := rfl
theorem sz_pos (t : Th) : 0 < t.sz := by simp [Th.sz]
theorem total_app (l k : List Th) : total (l ++ k) = total l + total k := by
  induction l with
  | nil => simp [total]
  | cons t r ih => simp [total, ih]; omega
theorem encL_len (mk : Int → Int) : ∀ (a : Int) (ts : List Th), (encL mk a ts).length = total ts
  | _, [] => rfl
  | a, t :: r => by rw [encL, List.length_append, encT_len, encL_len, total]
theorem encL_app (mk : Int → Int) : ∀ (a : Int) (l k : List Th), encL mk a (l ++ k) = encL mk a l ++ encL mk (a + total l) k
  | a, [], k => by simp [encL, total]
  | a, t :: r, k => by
    rw [List.cons_append, encL, encL_app, encL, total, List.append_assoc]
    congr 3
    simp [Int.add_assoc]
theorem doc_lt {t : Th} : ∀ (a : Int) (ts : List Th) (x : Int), docOf a ts x = some t → a ≤ x ∧ x < a + total ts
  | a, [], x, h => by cases h
  | a, u :: r, x, h => by
    rw [doc_cons] at h
    have := sz_pos u
    rw [total]
    split at h
    · subst x
      omega
    · have := doc_lt _ _ _ h
      omega
/-- What lies at an address stands somewhere among the things. -/
theorem doc_split {t : Th} : ∀ (a : Int) (ts : List Th) (x : Int), docOf a ts x = some t → ∃ l r, ts = l ++ t :: r ∧ x = a + total l
  | a, [], x, h => by cases h
  | a, u :: r, x, h => by
    rw [doc_cons] at h
    split at h
    · cases h
      exact ⟨[], r, rfl, by simp [total]; assumption⟩
    · obtain ⟨l, k, rfl, rfl⟩ := doc_split _ _ _ h
      exact ⟨u :: l, k, rfl, by simp [total]; omega⟩
theorem doc_app : ∀ (a : Int) (l k : List Th) (x : Int), docOf a (l ++ k) x = if x < a + total l then docOf a l x else docOf (a + total l) k x
  | a, [], k, x => by
    rw [List.nil_append, total, doc_nil, show a + ((0 : Nat) : Int) = a by omega]
    by_cases hx : x < a
    · rw [if_pos hx]
      cases h : docOf a k x with
      | none => rfl
      | some t => have := doc_lt a k x h; omega
    · rw [if_neg hx]
  | a, u :: r, k, x => by
    have hp := sz_pos u
    rw [List.cons_append, doc_cons, doc_cons, total, doc_app]
    by_cases h : x = a
    · rw [if_pos h, if_pos h, if_pos (by omega)]
    · rw [if_neg h, if_neg h]
      have e : a + (u.sz : Int) + (total r : Int) = a + ((u.sz + total r : Nat) : Int) := by omega
      rw [e]
theorem doc_at (a : Int) (l : List Th) (t : Th) (r : List Th) : docOf a (l ++ t :: r) (a + total l) = some t := by
  rw [doc_app, if_neg (by omega), doc_cons, if_pos rfl]
theorem doc_snoc (a : Int) (ts : List Th) (t : Th) : docOf a (ts ++ [t]) = upd (docOf a ts) (a + total ts) (some t) := by
  funext x
  rw [doc_app]
  unfold upd
  by_cases h1 : x < a + total ts
  · rw [if_pos h1, if_neg (by omega)]
  · rw [if_neg h1, doc_cons, doc_nil]
    by_cases h2 : x = a + total ts
    · rw [if_pos h2, if_pos h2]
    · rw [if_neg h2, if_neg h2]
      cases h : docOf a ts x with
      | none => rfl
      | some u => have := doc_lt a ts x h; omega
theorem doc_end (a : Int) (ts : List Th) (x : Int) (h : a + total ts ≤ x) : docOf a ts x = none := by
  cases h1 : docOf a ts x with
  | none => rfl
  | some t => have := doc_lt a ts x h1; omega
theorem doc_set (a : Int) (l : List Th) (t u : Th) (r : List Th) (hs : u.sz = t.sz) : docOf a (l ++ u :: r) = upd (docOf a (l ++ t :: r)) (a + total l) (some u) := by
  funext x
  unfold upd
  rw [doc_app, doc_app, doc_cons, doc_cons, hs]
  by_cases h : x = a + total l
  · rw [if_pos h, if_neg (by omega), if_pos h]
  · rw [if_neg h, if_neg h, if_neg h]
/-- A thing's head among the words. -/
theorem enc_hd (mk : Int → Int) (a : Int) (l : List Th) (t : Th) (r : List Th) : Hd (encL mk a (l ++ t :: r)) (total l) (hdw (mk (a + total l)) t) := by
  have e : encL mk a (l ++ t :: r) = encL mk a l ++ (encT (mk (a + total l)) t ++ encL mk (a + total l + t.sz) r) := by rw [encL_app, encL]
  have hl : (encL mk a (l ++ t :: r)).length = total l + (t.sz + total r) := by rw [encL_len, total_app, total]
  have hp := sz_pos t
  refine ⟨by omega, ?_, rfl, by simp [hdw], ?_⟩
  · rw [e, List.getElem?_append_right (by rw [encL_len]; omega), encL_len, Nat.sub_self]
    rfl
  · rw [hl]
    simp [hdw, Th.sz] at *
    omega
theorem enc_fld (mk : Int → Int) (a : Int) (l : List Th) (t : Th) (r : List Th) (i : Nat) (hi : i < t.fs.length) : (encL mk a (l ++ t :: r))[total l + 1 + i]? = some (fld (t.fs[i]'hi)) := by
  have e : encL mk a (l ++ t :: r) = encL mk a l ++ (encT (mk (a + total l)) t ++ encL mk (a + total l + t.sz) r) := by rw [encL_app, encL]
  rw [e, List.getElem?_append_right (by rw [encL_len]; omega), encL_len, show total l + 1 + i - total l = i + 1 by omega, List.getElem?_append_left (by rw [encT_len]; simp [Th.sz]; omega), encT, List.getElem?_cons_succ, List.getElem?_map, List.getElem?_eq_getElem hi]
  rfl
theorem enc_words (mk : Int → Int) (a : Int) (l : List Th) (t : Th) (r : List Th) : ((encL mk a (l ++ t :: r)).drop (total l)).take (t.fs.length + 1) = encT (mk (a + total l)) t := by
  have e : encL mk a (l ++ t :: r) = encL mk a l ++ (encT (mk (a + total l)) t ++ encL mk (a + total l + t.sz) r) := by rw [encL_app, encL]
  rw [e, List.drop_append_of_le_length (by rw [encL_len]; exact Nat.le_refl _), List.drop_of_length_le (by rw [encL_len]; exact Nat.le_refl _), List.nil_append]
  have : t.fs.length + 1 = (encT (mk (a + total l)) t).length := by rw [encT_len]; rfl
  rw [this]
  exact List.take_left
theorem encL_mk {mk mk' : Int → Int} : ∀ (a : Int) (ts : List Th), (∀ x t, docOf a ts x = some t → mk' x = mk x) → encL mk' a ts = encL mk a ts
  | a, [], _ => rfl
  | a, t :: r, h => by
    have hp := sz_pos t
    rw [encL, encL, h a t (by rw [doc_cons, if_pos rfl]), encL_mk (a + t.sz) r (fun x u hu => h x u (by
      have := doc_lt _ _ _ hu
      rw [doc_cons, if_neg (by omega)]
      exact hu))]
/-- A head is marked. -/
theorem enc_mark (mk : Int → Int) (a : Int) (l : List Th) (t : Th) (r : List Th) (m : Int) : (encL mk a (l ++ t :: r)).set (total l) (hdw m t) = encL (upd mk (a + total l) m) a (l ++ t :: r) := by
  have hp := sz_pos t
  rw [encL_app, encL, encL_app, encL, upd_same]
  rw [encL_mk (mk := mk) (mk' := upd mk (a + total l) m) a l (fun x u hu => upd_other _ _ (by have := doc_lt _ _ _ hu; omega)), encL_mk (mk := mk) (mk' := upd mk (a + total l) m) _ r (fun x u hu => upd_other _ _ (by have := doc_lt _ _ _ hu; omega))]
  rw [List.set_append_right _ _ (by rw [encL_len]; exact Nat.le_refl _), encL_len, Nat.sub_self]
  rfl
/-- A field is set. -/
theorem enc_set (mk : Int → Int) (a : Int) (l : List Th) (t : Th) (r : List Th) (i : Nat) (hi : i < t.fs.length) (c : Cl) : (encL mk a (l ++ t :: r)).set (total l + 1 + i) (fld c) = encL mk a (l ++ ⟨t.kind, t.tag, t.fs.set i c⟩ :: r) := by
  have hz : (⟨t.kind, t.tag, t.fs.set i c⟩ : Th).sz = t.sz := by simp [Th.sz]
  rw [encL_app, encL, encL_app, encL, hz, List.set_append_right _ _ (by rw [encL_len]; omega), encL_len, show total l + 1 + i - total l = i + 1 by omega, List.set_append_left _ _ (by rw [encT_len]; simp [Th.sz]; omega)]
  congr 2
  simp [encT, hdw, List.map_set]
end Go.Proofs.Ytfeopoamednidaa
