/-
  The document's layer code: the bytes of a code (Encode).
-/
import Derived.Test.YtlekoldicnfeeaaDoorC5
namespace Go.Proofs.YtlekoldicnfeeaaDoor
open Go.RowKit Go.Deep
theorem str_text (s : List UInt8) (t : ByteArray) : Value.string (({ data := s.toArray } : ByteArray) ++ { data := (big t.size 1).toArray } ++ t) = .string { data := (s ++ textB t).toArray } := by
  obtain ⟨d⟩ := t
  rw [ba_app, ba_app]
  congr 2
  apply Array.ext'
  simp [textB]
theorem owns_keep {w w' : World} {base : Nat} {e : TypeId} {size : Nat} {v : Value} {n : Nat} {xs : List Value} (h : w.ownsRow base e size v n xs) (hb : Below w.heap.size w w') : w'.ownsRow base e size v n xs := by
  obtain ⟨q1, q2⟩ := h
  refine ⟨q1, ?_⟩
  rcases q2 with q2 | ⟨g, cap, cur, qv, qg, qh, qq⟩
  · exact .inl q2
  · exact .inr ⟨g, cap, cur, qv, qg, (hb.block g (Array.getElem?_eq_some_iff.1 qh).1).trans qh, qq⟩
theorem str_app4 (s a b c l : List UInt8) : Value.string (({ data := s.toArray } : ByteArray) ++ { data := a.toArray } ++ { data := b.toArray } ++ { data := c.toArray } ++ { data := l.toArray }) = .string { data := ((((s ++ a) ++ b) ++ c) ++ l).toArray } := by
  rw [ba_app, ba_app, ba_app, ba_app]
  simp
section
set_option maxHeartbeats 8000000
set_option maxRecDepth 100000
theorem encode_any (c : Cd) (p : Option Addr) (cap : Nat) (p' : Option Addr) (cap' : Nat) (w : World) (hT : TextsIn w p c.texts) (hF : FunsIn w p' c.funs) (hsz : c.bytes.length ≤ 1000000000) :
    Calls Tryd.prog 9 #[.agg #[.slice p c.texts.length cap, .slice p' c.funs.length cap']] w fun e w' => e = .returned (.tuple #[.string { data := c.enc.1.toArray }, .int .i64 c.enc.2]) ∧ Below w.heap.size w w' := by
  have hb0 := (Below.refl w.heap.size w).alloc (Nat.le_refl _) (Obj.cells #[Value.slice p c.texts.length cap, Value.slice p' c.funs.length cap'] 25)
  have hcb : CBox (w.alloc (Obj.cells #[Value.slice p c.texts.length cap, Value.slice p' c.funs.length cap'] 25)) w.heap.size p c.texts.length cap p' c.funs.length cap' := (MapKept.heap_alloc w _).1
  have HT : Hid (TextsIn (w.alloc (Obj.cells #[Value.slice p c.texts.length cap, Value.slice p' c.funs.length cap'] 25)) p c.texts) := hT.below hb0
  have HF : Hid (FunsIn (w.alloc (Obj.cells #[Value.slice p c.texts.length cap, Value.slice p' c.funs.length cap'] 25)) p' c.funs) := hF.below hb0
  have Hb0 : Hid _ := hb0
  have Hcb : Hid _ := hcb
  have hn1 := hT.len
  have hn2 := hF.len
  have Hby : Hid ([77, 76, 49] ++ (big c.texts.length 2 ++ (c.texts.flatMap textB ++ (big c.funs.length 2 ++ c.funs.flatMap Fn.bytes))) = c.bytes) := rfl
  have Hok : Hid ((isTwo c.texts.length && (c.texts.all textOk && (isTwo c.funs.length && c.funs.all Fn.ok))) = c.ok) := rfl
  have Hend : Hid (c.enc = if c.ok = true then (if c.bytes.length > 4000000 then ([], 1) else (c.bytes, 0)) else ([], 17)) := rfl
  clear hb0 hcb hT hF
  generalize hE : c.enc = E at *
  generalize hB : c.bytes = Bs at *
  generalize hO : c.ok = O at *
  obtain ⟨ts, fs⟩ := c
  clear hE hB hO
  simp only at *
  obtain ⟨i0, hi0, hzz0, hzz1, hzz2⟩ := info_parts infos5
  go_enter Tryd.func9, Tryd.ntmps9
  go_wp2_with fail
  generalize w.alloc (Obj.cells #[Value.slice p ts.length cap, Value.slice p' fs.length cap'] 25) = w0 at *
  refine (two_any ts.length w0).mono ?_
  rintro e1 w1 ⟨rfl, hb1⟩
  have Hb1 : Hid _ := hb1
  have hl1 := big_len ts.length 2
  clear hb1
  go_wp2_with fail
  go_loopg [5, 6, 7] ts.length (fun gh gv sv iv wr => ∃ (i : Nat) (g : Bool) (s : List UInt8), gv = .bool g ∧ sv = .string { data := s.toArray } ∧ iv = .int .i64 i ∧ i ≤ ts.length ∧ gh = ts.length - i ∧ s.length ≤ 1000000000 ∧ Hid (s ++ ((ts.drop i).flatMap textB ++ (big fs.length 2 ++ fs.flatMap Fn.bytes)) = Bs ∧ (g && ((ts.drop i).all textOk && (isTwo fs.length && fs.all Fn.ok))) = O ∧ Below w0.heap.size w0 wr))
  case atStart => exact ⟨0, isTwo ts.length, [77, 76, 49] ++ big ts.length 2, rfl, str_app [77, 76, 49] _, rfl, by omega, by omega, by simp [hl1], by rw [List.append_assoc]; exact Hby.out, Hok.out, Hb1.out⟩
  case round =>
    clear Hby Hok Hb1
    obtain ⟨i, g, s, rfl, rfl, rfl, hi1, rfl, hsl, HR⟩ := hrel
    obtain ⟨r1, r2, r3⟩ := HR.out
    clear HR
    obtain ⟨x0, x1, hzb⟩ := (CBox.below Hcb.out r3).cells
    by_cases hi : i < ts.length
    · have hi' : (i : Int) < ts.length := by omega
      obtain ⟨b, o, rfl, hbw, hcell⟩ := HT.out.get i hi
      have Hcell : Hid (∀ wx, Below w0.heap.size w0 wx → wx.cell? ⟨b, o + i, none⟩ = some (.string (ts[i]'hi)) ∧ b < wx.heap.size ∧ wx.cell? ⟨w.heap.size, 0, none⟩ = some (.slice (some ⟨b, o, none⟩) ts.length cap) ∧ w.heap.size < wx.heap.size) := fun wx hx => ⟨(hx.cell (p := ⟨b, o + i, none⟩) hbw).trans hcell, Nat.lt_of_lt_of_le hbw hx.size, (CBox.below Hcb.out hx).cells.1, (CBox.below Hcb.out hx).cells.2.2⟩
      rw [drop_flat textB ts i hi] at r1
      rw [drop_all textOk ts i hi] at r2
      generalize ts[i]'hi = t at *
      have hlt : s.length + (1 + t.size) ≤ 1000000000 := by
        have h1 := congrArg List.length r1
        simp only [List.length_append, textB, big_len] at h1
        have h2 : t.data.toList.length = t.size := by rw [Array.length_toList]; rfl
        omega
      obtain ⟨g2, hg2⟩ : ∃ g2, g2 = (g && textOk t) := ⟨_, rfl⟩
      have Q0 : Hid ((s ++ textB t) ++ ((ts.drop (i + 1)).flatMap textB ++ (big fs.length 2 ++ fs.flatMap Fn.bytes)) = Bs ∧ (g2 && ((ts.drop (i + 1)).all textOk && (isTwo fs.length && fs.all Fn.ok))) = O) := ⟨by rw [← r1]; simp only [List.append_assoc], by rw [hg2, ← r2]; simp only [Bool.and_assoc]⟩
      have R3 : Hid (Below w0.heap.size w0 wr) := r3
      have Hg2 : Hid (g2 = (g && textOk t)) := hg2
      clear r1 r2 r3 hg2 hcell x1
      obtain ⟨y1, y2, y3, y4⟩ := Hcell.out wr R3.out
      go_upto_region 6 with fail
      go_cut [5] from 37 to 47 (fun a wx => Hid (a = .bool g2 ∧ wx = wr))
      case first =>
        cases g with
        | false =>
          have e : g2 = false := by rw [Hg2.out]; rfl
          subst e
          go_wp2
          go_meet
          exact ⟨rfl, rfl⟩
        | true =>
          by_cases h2 : (t.size : Int) ≤ 200
          · have e : g2 = true := by rw [Hg2.out]; simp [textOk, h2]
            subst e
            go_wp2
            go_meet
            exact ⟨rfl, rfl⟩
          · have e : g2 = false := by rw [Hg2.out]; simp [textOk]; omega
            subst e
            go_wp2
            go_meet
            exact ⟨rfl, rfl⟩
      case rest =>
        obtain ⟨rfl, hw⟩ := hcut.out
        have hw := hw.symm
        subst hw
        clear hcut
        have hd : Below w0.heap.size w0 wr.drew := R3.out.drew
        obtain ⟨d1, d2, d3, d4⟩ := Hcell.out wr.drew hd
        have hbl := big_len t.size 1
        have Hbig : Hid _ := big_any t.size 1 (by omega) wr.drew
        go_wp2_with fail
        go_region_with (go_at_call 20; refine Calls.mono Hbig.out ?_; rintro e9 w4 ⟨rfl, hb4⟩; obtain ⟨f1, f2, f3, f4⟩ := Hcell.out w4 (hd.trans (hb4.mono hd.size)))
        all_goals
          have Q : Hid ((s ++ textB t) ++ ((ts.drop (i + 1)).flatMap textB ++ (big fs.length 2 ++ fs.flatMap Fn.bytes)) = Bs ∧ (g2 && ((ts.drop (i + 1)).all textOk && (isTwo fs.length && fs.all Fn.ok))) = O ∧ Below w0.heap.size w0 w4) := ⟨Q0.out.1, Q0.out.2, hd.trans (hb4.mono hd.size)⟩
          have hQl : (s ++ textB t).length ≤ 1000000000 := by
            have h2 : t.data.toList.length = t.size := by rw [Array.length_toList]; rfl
            simp only [List.length_append, textB, big_len]
            omega
          clear Q0 hd hb4 Hbig d1 d2 d3 d4 f1 f2 f3 f4 y1 y2 y3 y4 R3 Hg2 Hcell
          go_wp2
          go_roundg (ts.length - (i + 1))
          case measure => omega
          case rel => exact ⟨i + 1, g2, s ++ textB t, rfl, str_text s t, by first | rfl | (congr 1; omega) | go_num, by omega, rfl, hQl, Q⟩
    · have hi' : ¬ (i : Int) < ts.length := by omega
      rw [drop_done ts i hi] at r1 r2
      have hl2 := big_len fs.length 2
      have hll : s.length + 2 ≤ 1000000000 := by
        have h1 := congrArg List.length r1
        simp only [List.length_append, List.flatMap_nil, List.length_nil, big_len] at h1
        omega
      obtain ⟨g2, hg2⟩ : ∃ g2, g2 = (g && isTwo fs.length) := ⟨_, rfl⟩
      have Q0 : Hid ((s ++ big fs.length 2) ++ fs.flatMap Fn.bytes = Bs ∧ (g2 && fs.all Fn.ok) = O) := ⟨by rw [← r1]; simp only [List.append_assoc, List.flatMap_nil, List.nil_append], by rw [hg2, ← r2]; simp only [List.all_nil, Bool.and_assoc, Bool.true_and]⟩
      have R3 : Hid (Below w0.heap.size w0 wr) := r3
      have Hg2 : Hid (g2 = (g && isTwo fs.length)) := hg2
      clear r1 r2 r3 hg2
      go_wp2_with fail
      refine (two_any fs.length wr).mono ?_
      rintro e1 w2 ⟨rfl, hb2⟩
      have Hb2 : Hid (Below w0.heap.size w0 w2) := R3.out.trans (hb2.mono R3.out.size)
      clear hb2 R3 x0 x1 hzb
      go_upto_region 9 with fail
      go_cut [5] from 69 to 73 (fun a wx => Hid (a = .bool g2 ∧ wx = w2))
      case first =>
        cases g with
        | false =>
          have e : g2 = false := by rw [Hg2.out]; rfl
          subst e
          go_wp2
          go_meet
          exact ⟨rfl, rfl⟩
        | true =>
          have e : g2 = isTwo fs.length := by rw [Hg2.out]; rfl
          subst e
          go_wp2
          go_meet
          exact ⟨rfl, rfl⟩
      case rest =>
        obtain ⟨rfl, hw⟩ := hcut.out
        have hw := hw.symm
        subst hw
        clear hcut Hg2
        go_wp2_with fail
        go_loopg [5, 6, 9] fs.length (fun gh gv sv iv wr => ∃ (i : Nat) (g : Bool) (s : List UInt8), gv = .bool g ∧ sv = .string { data := s.toArray } ∧ iv = .int .i64 i ∧ i ≤ fs.length ∧ gh = fs.length - i ∧ s.length ≤ 1000000000 ∧ Hid (s ++ (fs.drop i).flatMap Fn.bytes = Bs ∧ (g && (fs.drop i).all Fn.ok) = O ∧ Below w0.heap.size w0 wr))
        case atStart => exact ⟨0, g2, s ++ big fs.length 2, rfl, str_app _ _, rfl, by omega, by omega, by simp [hl2]; omega, Q0.out.1, Q0.out.2, Hb2.out⟩
        case round =>
          clear Q0 Hb2 hsl hll
          obtain ⟨i, g, s, rfl, rfl, rfl, hi1, rfl, hsl, HR⟩ := hrel
          obtain ⟨r1, r2, r3⟩ := HR.out
          clear HR
          obtain ⟨x0, x1, hzb⟩ := (CBox.below Hcb.out r3).cells
          by_cases hi : i < fs.length
          · have hi' : (i : Int) < fs.length := by omega
            obtain ⟨b, o, q, qc, rfl, hbw, hfc, hIn⟩ := HF.out.get i hi
            have hfc2 := hfc.below hbw r3
            have hbr := Nat.lt_of_lt_of_le hbw r3.size
            rw [drop_flat Fn.bytes fs i hi] at r1
            rw [drop_all Fn.ok fs i hi] at r2
            generalize fs[i]'hi = f at *
            obtain ⟨y0, y1, y2⟩ := hfc2
            have hfb : FBox (wr.alloc (Obj.cells #[Value.int IntKind.i64 f.free, Value.int IntKind.i64 f.slots, Value.slice q f.ins.length qc] 50)) wr.heap.size f q qc := (MapKept.heap_alloc wr _).1
            have hba : Below w0.heap.size w0 (wr.alloc (Obj.cells #[Value.int IntKind.i64 f.free, Value.int IntKind.i64 f.slots, Value.slice q f.ins.length qc] 50)) := r3.alloc r3.size _
            have HI : Hid (InsIn (wr.alloc (Obj.cells #[Value.int IntKind.i64 f.free, Value.int IntKind.i64 f.slots, Value.slice q f.ins.length qc] 50)) q f.ins) := hIn.below hba
            have Hfb : Hid _ := hfb
            have Hba : Hid _ := hba
            have hnl := hIn.len
            have hll : s.length + (6 + (f.ins.flatMap In.bytes).length) ≤ 1000000000 := by
              have h1 := congrArg List.length r1
              simp only [List.length_append, Fn.bytes, big_len] at h1
              omega
            have R1 : Hid (s ++ (Fn.bytes f ++ (fs.drop (i + 1)).flatMap Fn.bytes) = Bs) := r1
            have R2 : Hid ((g && (Fn.ok f && (fs.drop (i + 1)).all Fn.ok)) = O) := r2
            clear r1 r2 r3 hfc hIn hfb hba
            go_upto_region 15 with fail
            clear y0 y1 y2 hbr x0 x1 hzb
            generalize wr.alloc (Obj.cells #[Value.int IntKind.i64 f.free, Value.int IntKind.i64 f.slots, Value.slice q f.ins.length qc] 50) = w3 at *
            obtain ⟨z0, z1, z2, z3⟩ := FBox.cells Hfb.out
            go_wp2_with fail
            refine (two_any f.free w3).mono ?_
            rintro e1 w4 ⟨rfl, hb4⟩
            have Hb4 : Hid _ := hb4
            clear hb4 z0 z1 z2 z3
            obtain ⟨z0, z1, z2, z3⟩ := (FBox.below Hfb.out Hb4.out).cells
            go_wp2_with fail
            refine (two_any f.slots w4).mono ?_
            rintro e1 w5 ⟨rfl, hb5⟩
            have Hb5 : Hid (Below w3.heap.size w3 w5) := Below.trans Hb4.out (hb5.mono (Below.size Hb4.out))
            clear hb5 Hb4 z0 z1 z2 z3
            obtain ⟨z0, z1, z2, z3⟩ := (FBox.below Hfb.out Hb5.out).cells
            go_wp2_with fail
            refine (two_any f.ins.length w5).mono ?_
            rintro e1 w6 ⟨rfl, hb6⟩
            have Hb6 : Hid (Below w3.heap.size w3 w6) := Below.trans Hb5.out (hb6.mono (Below.size Hb5.out))
            clear hb6 Hb5 z0 z1 z2 z3
            obtain ⟨g3, hg3⟩ : ∃ g3, g3 = (g && (isTwo f.free && (isTwo f.slots && isTwo f.ins.length))) := ⟨_, rfl⟩
            have Hg3 : Hid (g3 = (g && (isTwo f.free && (isTwo f.slots && isTwo f.ins.length)))) := hg3
            have R4 : Hid ((g3 && (f.ins.all In.ok && (fs.drop (i + 1)).all Fn.ok)) = O) := by
              unfold Hid
              rw [← R2.out, hg3]
              simp only [Fn.ok, Bool.and_assoc]
            have hla := big_len f.free 2
            have hlb := big_len f.slots 2
            have hlc := big_len f.ins.length 2
            clear hg3 R2
            generalize hA9 : big f.free 2 = A9 at *
            generalize hB9 : big f.slots 2 = B9 at *
            generalize hC9 : big f.ins.length 2 = C9 at *
            have HF9 : Hid (Fn.bytes f = A9 ++ (B9 ++ (C9 ++ f.ins.flatMap In.bytes))) := by unfold Hid Fn.bytes; rw [hA9, hB9, hC9]
            clear hA9 hB9 hC9
            generalize isTwo f.free = k1 at *
            generalize isTwo f.slots = k2 at *
            generalize isTwo f.ins.length = k3 at *
            go_upto_region 18 with fail
            go_cut [5] from 107 to 117 (fun a wx => Hid (a = .bool g3 ∧ wx = w6))
            case first =>
              cases g with
              | false =>
                have e : g3 = false := by rw [Hg3.out]; rfl
                subst e
                go_wp2
                go_meet
                exact ⟨rfl, rfl⟩
              | true =>
                cases k1 with
                | false =>
                  have e : g3 = false := by rw [Hg3.out]; rfl
                  subst e
                  go_wp2
                  go_meet
                  exact ⟨rfl, rfl⟩
                | true =>
                  cases k2 with
                  | false =>
                    have e : g3 = false := by rw [Hg3.out]; rfl
                    subst e
                    go_wp2
                    go_meet
                    exact ⟨rfl, rfl⟩
                  | true =>
                    have e : g3 = k3 := by rw [Hg3.out]; rfl
                    subst e
                    go_wp2
                    go_meet
                    exact ⟨rfl, rfl⟩
            case rest =>
              obtain ⟨rfl, hw⟩ := hcut.out
              have hw := hw.symm
              subst hw
              clear hcut Hg3
              go_wp2_with fail
              go_loopg [5, 17, 18] f.ins.length (fun gh gv v0 iv wr => ∃ (k : Nat) (g4 : Bool) (v : Value), v = v0 ∧ gv = .bool g4 ∧ iv = .int .i64 k ∧ k ≤ f.ins.length ∧ gh = f.ins.length - k ∧ Hid (∃ l : List UInt8, l ++ (f.ins.drop k).flatMap In.bytes = f.ins.flatMap In.bytes ∧ (g4 && ((f.ins.drop k).all In.ok && (fs.drop (i + 1)).all Fn.ok)) = O ∧ wr.ownsRow w6.heap.size 5 1 v l.length (byteCells l) ∧ Below w6.heap.size w6 wr))
              case atStart => exact ⟨0, g3, _, rfl, rfl, rfl, by omega, by omega, [], rfl, R4.out, World.ownsRow_nil _ _ _ _, Below.refl _ _⟩
              case round =>
                clear R4
                obtain ⟨k, g4, v4, hv4, rfl, rfl, hk1, rfl, HR⟩ := hrel
                subst hv4
                obtain ⟨l, q1, q2, q3, q4⟩ := HR.out
                clear HR
                have hb3 : Below w3.heap.size w3 wr := Below.trans Hb6.out (q4.mono (Below.size Hb6.out))
                obtain ⟨z0, z1, z2, z3⟩ := (FBox.below Hfb.out hb3).cells
                have Hb3 : Hid (Below w3.heap.size w3 wr) := hb3
                clear hb3
                by_cases hk : k < f.ins.length
                · have hk' : (k : Int) < f.ins.length := by omega
                  obtain ⟨b2, o2, rfl, hb2w, a0, a1, a2⟩ := HI.out.get k hk
                  have c0 := (Hb3.out.cell (p := ⟨b2, o2 + k * 3, none⟩) hb2w).trans a0
                  have c1 := (Hb3.out.cell (p := ⟨b2, o2 + k * 3 + 1, none⟩) hb2w).trans a1
                  have c2 := (Hb3.out.cell (p := ⟨b2, o2 + k * 3 + 2, none⟩) hb2w).trans a2
                  have hb2r := Nat.lt_of_lt_of_le hb2w Hb3.out.size
                  clear a0 a1 a2
                  have hl9 := congrArg List.length q1
                  rw [drop_flat In.bytes f.ins k hk] at q1 hl9
                  rw [drop_all In.ok f.ins k hk] at q2
                  generalize f.ins[k]'hk = x at *
                  simp only [List.length_append] at hl9
                  have hxl := x.bytes_len
                  have hlx : l.length + x.bytes.length ≤ 1000000000 := by omega
                  obtain ⟨g5, hg5⟩ : ∃ g5, g5 = (g4 && x.ok) := ⟨_, rfl⟩
                  have Hg5 : Hid (g5 = (g4 && x.ok)) := hg5
                  have Q1 : Hid ((l ++ x.bytes) ++ (f.ins.drop (k + 1)).flatMap In.bytes = f.ins.flatMap In.bytes ∧ (g5 && ((f.ins.drop (k + 1)).all In.ok && (fs.drop (i + 1)).all Fn.ok)) = O) := ⟨by rw [List.append_assoc]; exact q1, by rw [hg5, ← q2]; simp only [Bool.and_assoc]⟩
                  have Q3 : Hid (wr.ownsRow w6.heap.size 5 1 v4 l.length (byteCells l)) := q3
                  have Q4 : Hid (Below w6.heap.size w6 wr) := q4
                  have hz6 := q4.size
                  clear q1 q2 q3 q4 hg5 hl9
                  go_wp2_with fail
                  refine (ins_any x wr).mono ?_
                  rintro e1 w7 ⟨rfl, hb7⟩
                  have ho7 := owns_keep Q3.out hb7
                  have Q7 : Hid (Below w6.heap.size w6 w7) := Q4.out.trans (hb7.mono hz6)
                  have hz7 := Q7.out.size
                  clear hb7 c0 c1 c2 hb2r z0 z1 z2 z3 Q3 Q4
                  generalize x.ok = kx at *
                  go_upto_region 24 with fail
                  go_cut [5] from 133 to 137 (fun a wx => Hid (a = .bool g5 ∧ wx = w7))
                  case first =>
                    cases g4 with
                    | false =>
                      have e : g5 = false := by rw [Hg5.out]; rfl
                      subst e
                      go_wp2
                      go_meet
                      exact ⟨rfl, rfl⟩
                    | true =>
                      have e : g5 = kx := by rw [Hg5.out]; rfl
                      subst e
                      go_wp2
                      go_meet
                      exact ⟨rfl, rfl⟩
                  case rest =>
                    obtain ⟨rfl, hw⟩ := hcut.out
                    have hw := hw.symm
                    subst hw
                    clear hcut Hg5
                    have hbs : ({ data := x.bytes.toArray } : ByteArray).size = x.bytes.length := by simp [ByteArray.size]
                    go_wp2_with (at_builtin; refine Lib.wpList_append_own_string _ rfl _ _ 42 9 rfl w6.heap.size 5 i0 Tryd.underlying42 Tryd.underlying9 hi0 hzz0 hzz1 hzz2 _ _ _ rfl ho7 { data := x.bytes.toArray } rfl (by rw [hbs]; unfold maxLen; omega) (by rw [hbs]; omega) hz7 ?_)
                    intro v8 w8 ho8 hg8 _
                    rw [strCells_eq, ← byteCells_app, ← List.length_append] at ho8
                    have hv4 : ∀ g, v4.ownBlock = some g → w6.heap.size ≤ g := fun g hg => (ho7.lt g hg).1
                    have Q : Hid (∃ l : List UInt8, l ++ (f.ins.drop (k + 1)).flatMap In.bytes = f.ins.flatMap In.bytes ∧ (g5 && ((f.ins.drop (k + 1)).all In.ok && (fs.drop (i + 1)).all Fn.ok)) = O ∧ w8.ownsRow w6.heap.size 5 1 v8 l.length (byteCells l) ∧ Below w6.heap.size w6 w8) := ⟨_, Q1.out.1, Q1.out.2, ho8, Q7.out.grown hg8 hz7 hv4⟩
                    clear ho8 hg8 hv4 ho7 Q1 Q7
                    go_wp2
                    go_roundg (f.ins.length - (k + 1))
                    case measure => omega
                    case rel => exact ⟨k + 1, g5, _, rfl, rfl, by first | rfl | (congr 1; omega) | go_num, by omega, rfl, Q⟩
                · have hk' : ¬ (k : Int) < f.ins.length := by omega
                  rw [drop_done f.ins k hk] at q1 q2
                  simp only [List.flatMap_nil, List.append_nil, List.all_nil, Bool.true_and] at q1 q2
                  have hcv := owned_str q3
                  have hll2 : s.length + (6 + l.length) ≤ 1000000000 := by rw [q1]; exact hll
                  have Q : Hid ((((s ++ A9) ++ B9) ++ C9) ++ l ++ (fs.drop (i + 1)).flatMap Fn.bytes = Bs ∧ (g4 && (fs.drop (i + 1)).all Fn.ok) = O ∧ Below w0.heap.size w0 wr) := ⟨by rw [← R1.out, HF9.out, q1]; simp only [List.append_assoc], q2, Below.trans Hba.out (Hb3.out.mono (Below.size Hba.out))⟩
                  clear q1 q2 q3 q4 Hb3
                  go_wp2
                  go_roundg (fs.length - (i + 1))
                  case measure => omega
                  case rel => exact ⟨i + 1, g4, (((s ++ A9) ++ B9) ++ C9) ++ l, rfl, str_app4 s A9 B9 C9 l, by first | rfl | (congr 1; omega) | go_num, by omega, rfl, by simp only [List.length_append]; omega, Q⟩
          · have hi' : ¬ (i : Int) < fs.length := by omega
            rw [drop_done fs i hi] at r1 r2
            simp only [List.flatMap_nil, List.append_nil, List.all_nil, Bool.and_true] at r1 r2
            subst r1
            subst r2
            have R3 : Hid (Below w.heap.size w wr) := Hb0.out.trans (r3.mono Hb0.out.size)
            have Hend2 : Hid _ := Hend.out
            clear Hend r3
            cases g with
            | false =>
              have he : E = ([], 17) := by rw [Hend2.out]; simp
              subst he
              go_wp2
              exact bodyPost_ret (v := .tuple #[.string { data := #[] }, .int .i64 17]) (by simp [results, Tryd.results9, go_sem]) rfl ⟨rfl, R3.out⟩
            | true =>
              by_cases h4 : s.length > 4000000
              · have he : E = ([], 1) := by rw [Hend2.out]; simp [h4]
                subst he
                have h4' : (4000000 : Int) < s.length := by omega
                go_wp2
                exact bodyPost_ret (v := .tuple #[.string { data := #[] }, .int .i64 1]) (by simp [results, Tryd.results9, go_sem]) rfl ⟨rfl, R3.out⟩
              · have he : E = (s, 0) := by rw [Hend2.out]; simp [h4]
                subst he
                have h4' : ¬ (4000000 : Int) < s.length := by omega
                go_wp2
                exact bodyPost_ret (v := .tuple #[.string { data := s.toArray }, .int .i64 0]) (by simp [results, Tryd.results9, go_sem]) rfl ⟨rfl, R3.out⟩
end
end Go.Proofs.YtlekoldicnfeeaaDoor
