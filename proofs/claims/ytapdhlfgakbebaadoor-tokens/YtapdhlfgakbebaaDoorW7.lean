/-
  The walk of wordKinds: a new map that holds the words and nothing else.
-/
import Derived.Test.YtapdhlfgakbebaaDoorW6
import Derived.Maps.OwnSet
namespace Go.Proofs.YtapdhlfgakbebaaDoor
open Go.RowKit Go.Maps Go.WideMaps
theorem law9 : Keyed Tryd.prog 9 := string_keyed Tryd.underlying9
theorem zero3 (w : World) : (zeroValue 3).run Tryd.prog w = .ok (.int .i64 0) w := by kernel_rfl
/-- The map of words, as data. -/
def wordsData (ws : List (List UInt8)) (D : DataW Unit) : DataW Unit := ws.foldl (fun D x => D.put (.string x) (.lit (.int .i64 6))) D
theorem put_isMap {H : Type} {D : DataW H} (h : IsMap D) (k : Lit) (d : DataW H) : IsMap (D.put k d) := by
  obtain ⟨es, rfl⟩ := h
  exact ⟨_, rfl⟩
theorem wordsData_has : ∀ (ws : List (List UInt8)) (D : DataW Unit) (d : List UInt8), IsMap D → Maps.has (wordsData ws D) (.string d) = (ws.contains d || Maps.has D (.string d))
  | [], D, d, _ => by simp [wordsData]
  | x :: ws, D, d, hD => by
    have ih := wordsData_has ws (D.put (.string x) (.lit (.int .i64 6))) d (put_isMap hD _ _)
    show Maps.has (wordsData ws (D.put (.string x) (.lit (.int .i64 6)))) (.string d) = _
    rw [ih]
    by_cases h : d = x
    · subst h
      rw [has_put_same hD (by trivial)]
      simp
    · rw [has_put_other (by simpa using h)]
      simp [h]
theorem wordsData_at : ∀ (ws : List (List UInt8)) (D : DataW Unit) (d : List UInt8) (z : DataW Unit), IsMap D → (wordsData ws D).atKey (.string d) z = (if ws.contains d then .lit (.int .i64 6) else D.atKey (.string d) z)
  | [], D, d, z, _ => by simp [wordsData]
  | x :: ws, D, d, z, hD => by
    have ih := wordsData_at ws (D.put (.string x) (.lit (.int .i64 6))) d z (put_isMap hD _ _)
    show (wordsData ws (D.put (.string x) (.lit (.int .i64 6)))).atKey (.string d) z = _
    rw [ih]
    by_cases h : d = x
    · subst h
      rw [atKey_put_same hD (by trivial)]
      simp
    · rw [atKey_put_other (by simpa using h)]
      simp [h]
set_option maxHeartbeats 4000000 in
set_option maxRecDepth 100000 in
theorem wordKinds_any (w : World) :
    Calls Tryd.prog 14 #[] w fun e w' => e = .returned (.map (some w.heap.size)) ∧ w'.ownsMap Tryd.prog 9 (plainElem Tryd.prog 3) w.heap.size 28 (wordsData Lx.words (.map [])) ∧ Below w.heap.size w w' := by
  have hmm := @run_makeMap Tryd.prog
  have hown0 : (w.alloc (.map #[] 0)).ownsMap Tryd.prog 9 (plainElem (H := Unit) Tryd.prog 3) w.heap.size 0 (.map []) := World.ownsMap_made _ _ _ _
  have hb0 : Below w.heap.size w (w.alloc (.map #[] 0)) := (Below.refl _ _).alloc (Nat.le_refl _) _
  obtain ⟨w1, hr1, hown1, hg1⟩ := hown0.update law9 Tryd.underlying37 (by unfold maxLen; omega) (key := .string { data := #[97, 110, 100] }) (val := .int .i64 6) (kl := .string [97, 110, 100]) (keyOf_string_mk Tryd.underlying9 (by decide)) (plainElem_int (a := 6) Tryd.underlying3 (by decide))
  have hb1 := hb0.grown hg1 hb0.size (fun k hk => by cases hk; exact Nat.le_refl _)
  clear hown0 hg1 hb0
  obtain ⟨w2, hr2, hown2, hg2⟩ := hown1.update law9 Tryd.underlying37 (by unfold maxLen; omega) (key := .string { data := #[97, 110, 100, 97, 108, 115, 111] }) (val := .int .i64 6) (kl := .string [97, 110, 100, 97, 108, 115, 111]) (keyOf_string_mk Tryd.underlying9 (by decide)) (plainElem_int (a := 6) Tryd.underlying3 (by decide))
  have hb2 := hb1.grown hg2 hb1.size (fun k hk => by cases hk; exact Nat.le_refl _)
  clear hown1 hg2 hb1
  obtain ⟨w3, hr3, hown3, hg3⟩ := hown2.update law9 Tryd.underlying37 (by unfold maxLen; omega) (key := .string { data := #[97, 115] }) (val := .int .i64 6) (kl := .string [97, 115]) (keyOf_string_mk Tryd.underlying9 (by decide)) (plainElem_int (a := 6) Tryd.underlying3 (by decide))
  have hb3 := hb2.grown hg3 hb2.size (fun k hk => by cases hk; exact Nat.le_refl _)
  clear hown2 hg3 hb2
  obtain ⟨w4, hr4, hown4, hg4⟩ := hown3.update law9 Tryd.underlying37 (by unfold maxLen; omega) (key := .string { data := #[99, 97, 115, 101] }) (val := .int .i64 6) (kl := .string [99, 97, 115, 101]) (keyOf_string_mk Tryd.underlying9 (by decide)) (plainElem_int (a := 6) Tryd.underlying3 (by decide))
  have hb4 := hb3.grown hg4 hb3.size (fun k hk => by cases hk; exact Nat.le_refl _)
  clear hown3 hg4 hb3
  obtain ⟨w5, hr5, hown5, hg5⟩ := hown4.update law9 Tryd.underlying37 (by unfold maxLen; omega) (key := .string { data := #[100, 97, 116, 97] }) (val := .int .i64 6) (kl := .string [100, 97, 116, 97]) (keyOf_string_mk Tryd.underlying9 (by decide)) (plainElem_int (a := 6) Tryd.underlying3 (by decide))
  have hb5 := hb4.grown hg5 hb4.size (fun k hk => by cases hk; exact Nat.le_refl _)
  clear hown4 hg5 hb4
  obtain ⟨w6, hr6, hown6, hg6⟩ := hown5.update law9 Tryd.underlying37 (by unfold maxLen; omega) (key := .string { data := #[101, 108, 115, 101] }) (val := .int .i64 6) (kl := .string [101, 108, 115, 101]) (keyOf_string_mk Tryd.underlying9 (by decide)) (plainElem_int (a := 6) Tryd.underlying3 (by decide))
  have hb6 := hb5.grown hg6 hb5.size (fun k hk => by cases hk; exact Nat.le_refl _)
  clear hown5 hg6 hb5
  obtain ⟨w7, hr7, hown7, hg7⟩ := hown6.update law9 Tryd.underlying37 (by unfold maxLen; omega) (key := .string { data := #[101, 110, 100] }) (val := .int .i64 6) (kl := .string [101, 110, 100]) (keyOf_string_mk Tryd.underlying9 (by decide)) (plainElem_int (a := 6) Tryd.underlying3 (by decide))
  have hb7 := hb6.grown hg7 hb6.size (fun k hk => by cases hk; exact Nat.le_refl _)
  clear hown6 hg7 hb6
  obtain ⟨w8, hr8, hown8, hg8⟩ := hown7.update law9 Tryd.underlying37 (by unfold maxLen; omega) (key := .string { data := #[101, 120, 99, 101, 112, 116, 105, 111, 110] }) (val := .int .i64 6) (kl := .string [101, 120, 99, 101, 112, 116, 105, 111, 110]) (keyOf_string_mk Tryd.underlying9 (by decide)) (plainElem_int (a := 6) Tryd.underlying3 (by decide))
  have hb8 := hb7.grown hg8 hb7.size (fun k hk => by cases hk; exact Nat.le_refl _)
  clear hown7 hg8 hb7
  obtain ⟨w9, hr9, hown9, hg9⟩ := hown8.update law9 Tryd.underlying37 (by unfold maxLen; omega) (key := .string { data := #[102, 97, 108, 115, 101] }) (val := .int .i64 6) (kl := .string [102, 97, 108, 115, 101]) (keyOf_string_mk Tryd.underlying9 (by decide)) (plainElem_int (a := 6) Tryd.underlying3 (by decide))
  have hb9 := hb8.grown hg9 hb8.size (fun k hk => by cases hk; exact Nat.le_refl _)
  clear hown8 hg9 hb8
  obtain ⟨w10, hr10, hown10, hg10⟩ := hown9.update law9 Tryd.underlying37 (by unfold maxLen; omega) (key := .string { data := #[102, 110] }) (val := .int .i64 6) (kl := .string [102, 110]) (keyOf_string_mk Tryd.underlying9 (by decide)) (plainElem_int (a := 6) Tryd.underlying3 (by decide))
  have hb10 := hb9.grown hg10 hb9.size (fun k hk => by cases hk; exact Nat.le_refl _)
  clear hown9 hg10 hb9
  obtain ⟨w11, hr11, hown11, hg11⟩ := hown10.update law9 Tryd.underlying37 (by unfold maxLen; omega) (key := .string { data := #[102, 117, 110] }) (val := .int .i64 6) (kl := .string [102, 117, 110]) (keyOf_string_mk Tryd.underlying9 (by decide)) (plainElem_int (a := 6) Tryd.underlying3 (by decide))
  have hb11 := hb10.grown hg11 hb10.size (fun k hk => by cases hk; exact Nat.le_refl _)
  clear hown10 hg11 hb10
  obtain ⟨w12, hr12, hown12, hg12⟩ := hown11.update law9 Tryd.underlying37 (by unfold maxLen; omega) (key := .string { data := #[105, 102] }) (val := .int .i64 6) (kl := .string [105, 102]) (keyOf_string_mk Tryd.underlying9 (by decide)) (plainElem_int (a := 6) Tryd.underlying3 (by decide))
  have hb12 := hb11.grown hg12 hb11.size (fun k hk => by cases hk; exact Nat.le_refl _)
  clear hown11 hg12 hb11
  obtain ⟨w13, hr13, hown13, hg13⟩ := hown12.update law9 Tryd.underlying37 (by unfold maxLen; omega) (key := .string { data := #[105, 110] }) (val := .int .i64 6) (kl := .string [105, 110]) (keyOf_string_mk Tryd.underlying9 (by decide)) (plainElem_int (a := 6) Tryd.underlying3 (by decide))
  have hb13 := hb12.grown hg13 hb12.size (fun k hk => by cases hk; exact Nat.le_refl _)
  clear hown12 hg13 hb12
  obtain ⟨w14, hr14, hown14, hg14⟩ := hown13.update law9 Tryd.underlying37 (by unfold maxLen; omega) (key := .string { data := #[108, 101, 116] }) (val := .int .i64 6) (kl := .string [108, 101, 116]) (keyOf_string_mk Tryd.underlying9 (by decide)) (plainElem_int (a := 6) Tryd.underlying3 (by decide))
  have hb14 := hb13.grown hg14 hb13.size (fun k hk => by cases hk; exact Nat.le_refl _)
  clear hown13 hg14 hb13
  obtain ⟨w15, hr15, hown15, hg15⟩ := hown14.update law9 Tryd.underlying37 (by unfold maxLen; omega) (key := .string { data := #[111, 102] }) (val := .int .i64 6) (kl := .string [111, 102]) (keyOf_string_mk Tryd.underlying9 (by decide)) (plainElem_int (a := 6) Tryd.underlying3 (by decide))
  have hb15 := hb14.grown hg15 hb14.size (fun k hk => by cases hk; exact Nat.le_refl _)
  clear hown14 hg15 hb14
  obtain ⟨w16, hr16, hown16, hg16⟩ := hown15.update law9 Tryd.underlying37 (by unfold maxLen; omega) (key := .string { data := #[111, 112, 101, 110] }) (val := .int .i64 6) (kl := .string [111, 112, 101, 110]) (keyOf_string_mk Tryd.underlying9 (by decide)) (plainElem_int (a := 6) Tryd.underlying3 (by decide))
  have hb16 := hb15.grown hg16 hb15.size (fun k hk => by cases hk; exact Nat.le_refl _)
  clear hown15 hg16 hb15
  obtain ⟨w17, hr17, hown17, hg17⟩ := hown16.update law9 Tryd.underlying37 (by unfold maxLen; omega) (key := .string { data := #[111, 114, 101, 108, 115, 101] }) (val := .int .i64 6) (kl := .string [111, 114, 101, 108, 115, 101]) (keyOf_string_mk Tryd.underlying9 (by decide)) (plainElem_int (a := 6) Tryd.underlying3 (by decide))
  have hb17 := hb16.grown hg17 hb16.size (fun k hk => by cases hk; exact Nat.le_refl _)
  clear hown16 hg17 hb16
  obtain ⟨w18, hr18, hown18, hg18⟩ := hown17.update law9 Tryd.underlying37 (by unfold maxLen; omega) (key := .string { data := #[114, 97, 105, 115, 101] }) (val := .int .i64 6) (kl := .string [114, 97, 105, 115, 101]) (keyOf_string_mk Tryd.underlying9 (by decide)) (plainElem_int (a := 6) Tryd.underlying3 (by decide))
  have hb18 := hb17.grown hg18 hb17.size (fun k hk => by cases hk; exact Nat.le_refl _)
  clear hown17 hg18 hb17
  obtain ⟨w19, hr19, hown19, hg19⟩ := hown18.update law9 Tryd.underlying37 (by unfold maxLen; omega) (key := .string { data := #[115, 105, 103] }) (val := .int .i64 6) (kl := .string [115, 105, 103]) (keyOf_string_mk Tryd.underlying9 (by decide)) (plainElem_int (a := 6) Tryd.underlying3 (by decide))
  have hb19 := hb18.grown hg19 hb18.size (fun k hk => by cases hk; exact Nat.le_refl _)
  clear hown18 hg19 hb18
  obtain ⟨w20, hr20, hown20, hg20⟩ := hown19.update law9 Tryd.underlying37 (by unfold maxLen; omega) (key := .string { data := #[115, 105, 103, 110, 97, 116, 117, 114, 101] }) (val := .int .i64 6) (kl := .string [115, 105, 103, 110, 97, 116, 117, 114, 101]) (keyOf_string_mk Tryd.underlying9 (by decide)) (plainElem_int (a := 6) Tryd.underlying3 (by decide))
  have hb20 := hb19.grown hg20 hb19.size (fun k hk => by cases hk; exact Nat.le_refl _)
  clear hown19 hg20 hb19
  obtain ⟨w21, hr21, hown21, hg21⟩ := hown20.update law9 Tryd.underlying37 (by unfold maxLen; omega) (key := .string { data := #[115, 116, 114, 117, 99, 116] }) (val := .int .i64 6) (kl := .string [115, 116, 114, 117, 99, 116]) (keyOf_string_mk Tryd.underlying9 (by decide)) (plainElem_int (a := 6) Tryd.underlying3 (by decide))
  have hb21 := hb20.grown hg21 hb20.size (fun k hk => by cases hk; exact Nat.le_refl _)
  clear hown20 hg21 hb20
  obtain ⟨w22, hr22, hown22, hg22⟩ := hown21.update law9 Tryd.underlying37 (by unfold maxLen; omega) (key := .string { data := #[115, 116, 114, 117, 99, 116, 117, 114, 101] }) (val := .int .i64 6) (kl := .string [115, 116, 114, 117, 99, 116, 117, 114, 101]) (keyOf_string_mk Tryd.underlying9 (by decide)) (plainElem_int (a := 6) Tryd.underlying3 (by decide))
  have hb22 := hb21.grown hg22 hb21.size (fun k hk => by cases hk; exact Nat.le_refl _)
  clear hown21 hg22 hb21
  obtain ⟨w23, hr23, hown23, hg23⟩ := hown22.update law9 Tryd.underlying37 (by unfold maxLen; omega) (key := .string { data := #[116, 104, 101, 110] }) (val := .int .i64 6) (kl := .string [116, 104, 101, 110]) (keyOf_string_mk Tryd.underlying9 (by decide)) (plainElem_int (a := 6) Tryd.underlying3 (by decide))
  have hb23 := hb22.grown hg23 hb22.size (fun k hk => by cases hk; exact Nat.le_refl _)
  clear hown22 hg23 hb22
  obtain ⟨w24, hr24, hown24, hg24⟩ := hown23.update law9 Tryd.underlying37 (by unfold maxLen; omega) (key := .string { data := #[116, 114, 117, 101] }) (val := .int .i64 6) (kl := .string [116, 114, 117, 101]) (keyOf_string_mk Tryd.underlying9 (by decide)) (plainElem_int (a := 6) Tryd.underlying3 (by decide))
  have hb24 := hb23.grown hg24 hb23.size (fun k hk => by cases hk; exact Nat.le_refl _)
  clear hown23 hg24 hb23
  obtain ⟨w25, hr25, hown25, hg25⟩ := hown24.update law9 Tryd.underlying37 (by unfold maxLen; omega) (key := .string { data := #[116, 114, 121] }) (val := .int .i64 6) (kl := .string [116, 114, 121]) (keyOf_string_mk Tryd.underlying9 (by decide)) (plainElem_int (a := 6) Tryd.underlying3 (by decide))
  have hb25 := hb24.grown hg25 hb24.size (fun k hk => by cases hk; exact Nat.le_refl _)
  clear hown24 hg25 hb24
  obtain ⟨w26, hr26, hown26, hg26⟩ := hown25.update law9 Tryd.underlying37 (by unfold maxLen; omega) (key := .string { data := #[116, 121, 112, 101] }) (val := .int .i64 6) (kl := .string [116, 121, 112, 101]) (keyOf_string_mk Tryd.underlying9 (by decide)) (plainElem_int (a := 6) Tryd.underlying3 (by decide))
  have hb26 := hb25.grown hg26 hb25.size (fun k hk => by cases hk; exact Nat.le_refl _)
  clear hown25 hg26 hb25
  obtain ⟨w27, hr27, hown27, hg27⟩ := hown26.update law9 Tryd.underlying37 (by unfold maxLen; omega) (key := .string { data := #[118, 97, 108] }) (val := .int .i64 6) (kl := .string [118, 97, 108]) (keyOf_string_mk Tryd.underlying9 (by decide)) (plainElem_int (a := 6) Tryd.underlying3 (by decide))
  have hb27 := hb26.grown hg27 hb26.size (fun k hk => by cases hk; exact Nat.le_refl _)
  clear hown26 hg27 hb26
  obtain ⟨w28, hr28, hown28, hg28⟩ := hown27.update law9 Tryd.underlying37 (by unfold maxLen; omega) (key := .string { data := #[119, 105, 116, 104] }) (val := .int .i64 6) (kl := .string [119, 105, 116, 104]) (keyOf_string_mk Tryd.underlying9 (by decide)) (plainElem_int (a := 6) Tryd.underlying3 (by decide))
  have hb28 := hb27.grown hg28 hb27.size (fun k hk => by cases hk; exact Nat.le_refl _)
  clear hown27 hg28 hb27
  go_enter Tryd.func14, Tryd.ntmps14
  go_wp2
  go_ret
  exact ⟨rfl, hown28, hb28⟩
end Go.Proofs.YtapdhlfgakbebaaDoor
