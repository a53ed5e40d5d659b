/- Part of Greater. -/
import Derived.Test.YtkcmachfagcnaaaGreatDoorB29
set_option maxHeartbeats 8000000
set_option maxRecDepth 100000
namespace Go.Proofs.YtkcmachfagcnaaaGreatDoor
open Go.RowKit Go.Deep Go.IntWalk
open C12 (Cd Fn In zT)
section
variable{X:Fx}{w:World}{g:Pg}{m:AM}{R:Int->Int->Prop}
theorem J.outs(h:J X w g m R){w':World}{v:Value}{l:List UInt8}(hb:MBx w' X.mm (mfOf X {g with vo:=v} m))(ho:OwnB w' X.base v l)(hk:Kp (X.mm :: g.vo.ownBlock.toList) w w')(hf:sameB w g.vo v)(hn:l.length<=2000):J X w' {g with vo:=v} {m with out:=l} R/\Mv X w g w' {g with vo:=v}:=by
 have hY:∀ y∈X.mm :: g.vo.ownBlock.toList,y∈fpt X g:=by
  intro y hy
  unfold fpt
  simp only[List.mem_cons,List.mem_append] at hy ⊢
  rcases hy with hy | hy
  ·exact Or.inl hy
  ·exact Or.inr (Or.inr (Or.inr (Or.inr (Or.inr (Or.inr (Or.inr hy))))))
 have hmb:=h.box
 unfold MBx at hmb
 refine⟨⟨hb,zaf h.oc hk (h.tc.off hmb (by decide) h.to (by decide)),zaf h.os hk (h.ts.off hmb (by decide) h.to (by decide)),zaf h.ov hk (h.tv.off hmb (by decide) h.to (by decide)),zaf h.ot hk (h.tt.off hmb (by decide) h.to (by decide)),ho,h.dj,h.hh.kp hk ?_ (h.tw.off hmb (by decide) h.to (by decide)),h.cl,h.oth,h.wfr,h.one,h.st,h.th,h.lbw hk hY,h.lb,Nat.le_trans h.bs hk.size,h.ck,h.fb,h.nx,h.nd,h.len.1,h.len.2.1,h.len.2.2.1,h.len.2.2.2.1,hn⟩,hk.mono hY,fun k hkm=>?_⟩
 ·intro hx
  rcases List.mem_cons.1 hx with e | hx
  ·exact h.hpne e
  ·exact(h.to.ne h.hh.box (by decide)) hx
 ·unfold fpt at hkm ⊢
  simp only[List.mem_cons,List.mem_append,Option.mem_toList] at hkm ⊢
  rcases hkm with hkm | hkm | hkm | hkm | hkm | hkm | hkm | hkm
  all_goals first | exact Or.inl (by simp[hkm]) | skip
  rcases hf.or hkm with e2 | e2
  ·exact Or.inl (by simp[e2])
  ·exact Or.inr e2
theorem zoq{w:World}{base:Nat}{v:Value}{n:Nat}{xs:List Value}(hown:w.ownsRow base 5 1 v n xs)(s:ByteArray)(h63:n+s.size<=1000000)(hbase:base<=w.heap.size)(ty:TypeId) :
  ∃ v' w',(Builtin.append_ #[62,9] ty #[v,.string s]).run Tryz.prog w=.ok v' w'/\w'.ownsRow base 5 1 v' (n+s.size) (xs++Lib.strCells s)/\w.grownBy w' v.ownBlock/\(v'.ownBlock=v.ownBlock\/v'.ownBlock=some w.heap.size):=by
 obtain⟨i0,hi0,hz0,hz1,hz2⟩:=zap zqu
 obtain⟨v',w',hr,h2,h3,h4⟩:=Lib.run_append_own_string (P:=Tryz.prog) w base 62 9 ty 5 i0 under62 Tryz.underlying9 hi0 hz0 hz1 hz2 v n xs hown s (by unfold maxLen;omega) (by omega) hbase
 refine⟨v',w',hr,h2,h3,?_⟩
 rcases hown.2 with⟨rfl,rfl⟩ | ⟨g,cap,cur,rfl,hbg,hg,hnc,hcm,hcs,htake⟩
 ·by_cases hm:s.size=0
  ·rw[h4.2 ⟨rfl,hm⟩]
   exact Or.inl rfl
  ·have hr2:=run_append_nil_string (P:=Tryz.prog) w 62 9 ty 5 i0 (.int .u8 0) under62 Tryz.underlying9 hi0 hz0 s (by omega) (by omega) (by rw[hz2];omega)
   rw[hr2] at hr
   cases hr
   exact Or.inr rfl
 ·by_cases hroom:n+s.size<=cap
  ·have hr2:=Lib.run_append_room_string (P:=Tryz.prog) w 62 9 ty 5 i0 under62 Tryz.underlying9 hi0 hz1 g n cap cur hg s hroom (by omega)
   rw[hr2] at hr
   cases hr
   exact Or.inl rfl
  ·have holds:=hown.cells (g:=g) rfl
   have hxl:xs.length=n:=by simpa using hown.1
   have hr2:=Lib.run_append_grow_string (P:=Tryz.prog) w 62 9 ty 5 i0 (.int .u8 0) under62 Tryz.underlying9 hi0 hz0 ⟨g,0,none⟩ n cap xs (by rw[hz1];simpa using hxl) holds s (by omega) (by omega) (by rw[hz2];exact growslice_fits (by omega) (by omega))
   rw[hr2] at hr
   cases hr
   exact Or.inr rfl
theorem zhj(s:ByteArray):Lib.strCells s=s.data.toList.map byteV:=rfl
theorem zlb(h:J X w g m R)(s:ByteArray)(hs:s.size<=200):Calls Tryz.prog 112 #[.pointer (some ⟨X.mm,0,none⟩),.string s] w fun e w'=>zP X w g m (if 2000 < m.out.length+s.data.toList.length then .raise (-6) else .out s.data.toList) e w':=by
 have hwc:=h.bl.size
 have hsl:s.data.toList.length=s.size:=by simp
 rw[hsl]
 obtain⟨j1,m1,a1,o1⟩:=zbe h (.cells #[.bool false,.int .i64 0] 67)
 obtain⟨q,cap,hv,hc,hq,hz⟩:=zah h.oo
 have hol:=h.len.2.2.2.2
 have hw:IntKind.i64.wrap ((m.out.length:Int)+(s.size:Int))=((m.out.length+s.size:Nat):Int):=by rw[IntKind.wrap_i64];omega
 have HB:Hid (_/\_/\_/\_):=⟨m1,a1,o1,hwc⟩
 have HJ:=zh j1
 have c2:w.cell? ⟨X.mm,36,none⟩=some (.slice q m.out.length cap):=by rw[<-hv];exact h.box.tell.2.2.1
 have cl:=h.box.lt
 have c2':(w.alloc (.cells #[.bool false,.int .i64 0] 67)).cell? ⟨X.mm,36,none⟩=some (.slice q m.out.length cap):=by rw[<-hv];exact j1.box.tell.2.2.1
 have cl':=j1.box.lt
 have z2:=j1.box.frozen 36
 have Hv:=zh hv
 have Hhs:Hid (_/\_):=⟨hs,hol⟩
 clear j1 m1 a1 o1 h hwc hv hc hq hz hs hol
 generalize hA:(if 2000 < m.out.length+s.size then Act1.raise (-6) else Act1.out s.data.toList)=act
 have HA:=zh hA
 clear hA
 by_cases h2:2000 < m.out.length+s.size
 ·rw[if_pos h2] at HA
  have h2':(2000:Int) < ((m.out.length+s.size:Nat):Int):=by omega
  obtain⟨c0,c1,z0,z1,cl1⟩:=zaa HB.o.2.1
  obtain⟨d0,d1,_⟩:=zaa (zae HB.o.2.1 (.bool false) (.int .i64 0))
  have Q:Hid (zP X w g m act (.returned (.tuple #[.agg #[.bool false,.int .i64 0],.int .i64 (-6)])) (w.alloc (.cells #[.bool false,.int .i64 0] 67))):=by
   unfold Hid
   rw[<-HA.o]
   exact zck (-6) ⟨by decide,by decide⟩ ⟨HJ.o,HB.o.1⟩
  clear h2
  go_enter Tryz.func112,Tryz.ntmps112
  go_wp2_with fail
  exact bR (by simp[results,Tryz.results112,go_sem]) Q.o
 ·rw[if_neg h2] at HA
  have h2':¬ (2000:Int) < ((m.out.length+s.size:Nat):Int):=by omega
  have hown:(w.alloc (.cells #[.bool false,.int .i64 0] 67)).ownsRow X.base 5 1 (.slice q m.out.length cap) m.out.length (m.out.map byteV):=by rw[<-Hv.o];exact HJ.o.oo
  obtain⟨v4,w4,hrun,ho4,hg4,hv4⟩:=zoq hown s (by have:=Hhs.o;omega) HJ.o.bs 62
  have HK4:Hid (Kp g.vo.ownBlock.toList (w.alloc (.cells #[.bool false,.int .i64 0] 67)) w4):=Kp.of_grown hg4 (by intro k hk;rw[Hv.o];simpa using hk)
  have hmb:=HJ.o.box
  unfold MBx at hmb
  have hbx4:=HJ.o.box.kp HK4.o (HJ.o.to.ne hmb (by decide))
  have hk5:Kp [X.mm] w4 (w4.setCell ⟨X.mm,36,none⟩ v4):=Kp.setCell _ _ (by simp) _
  have hsb:sameB (w.alloc (.cells #[.bool false,.int .i64 0] 67)) g.vo v4:=by
   rcases hv4 with e | e
   ·exact Or.inl (by rw[e,Hv.o])
   ·exact Or.inr ⟨_,e,Nat.le_refl _⟩
  have HJ5:Hid (J X (w4.setCell ⟨X.mm,36,none⟩ v4) {g with vo:=v4} {m with out:=m.out++s.data.toList} R/\Mv X (w.alloc (.cells #[.bool false,.int .i64 0] 67)) g (w4.setCell ⟨X.mm,36,none⟩ v4) {g with vo:=v4}):=by
   refine HJ.o.outs (hbx4.setO v4) ?_ ((HK4.o.mono (fun x hx=>List.mem_cons_of_mem _ hx)).then hk5 (by simp)) hsb (by rw[lA,hsl];omega)
   refine zaf (X:=[X.mm]) ?_ hk5 (fun k e=>?_)
   ·rw[List.map_append,<-zhj,lA,hsl]
    exact ho4
   ·simp only[List.mem_singleton]
    rintro rfl
    rcases hsb.or e with e | e
    ·exact HJ.o.to.ne hmb (by decide) (by simpa using e)
    ·have:=HJ.o.box.lt
     omega
  obtain⟨p4,c4,hv4',_⟩:=zah ho4
  subst hv4'
  have f0:=hbx4.tell.2.2.1
  have f1:=hbx4.lt
  have f2:=hbx4.frozen 36
  have HN:Hid _:=za0 (w4.setCell ⟨X.mm,36,none⟩ (.slice p4 (m.out.length+s.size) c4)) 0
  clear ho4 hg4 hv4 hmb hbx4 hk5 hsb hown hsl
  go_enter Tryz.func112,Tryz.ntmps112
  go_wp2_with (at_builtin;refine wpList_plain rfl fun K hK=>?_;refine Lib.wp_append_run _ (Operand.tmp 20) (Operand.tmp 21) 62 9 rfl _ _ rfl rfl _ _ hrun ?_;refine hK _ _ ?_;clear hK K)
  clear hrun
  go_wp2_with fail
  refine cM HN.o ?_
  rintro e w6 ⟨rfl,hk6⟩
  obtain⟨mv,a1,o1,hwc⟩:=HB.o
  obtain⟨hJ5,hm5⟩:=HJ5.o
  obtain⟨o1r,k1r⟩:=o1.mv hm5
  have hb6:=zad (k1r.trans a1) hk6
  obtain⟨c0,c1,z0,z1,cl6⟩:=zaa hb6
  obtain⟨d0,d1,_⟩:=zaa (zae hb6 (.bool false) (.int .i64 0))
  have Q:Hid (zP X w g m act (.returned (.tuple #[.agg #[.bool false,.int .i64 0],.int .i64 0])) ((w6.setCell ⟨w.heap.size,0,none⟩ (.bool false)).setCell ⟨w.heap.size,1,none⟩ (.int .i64 0))):=by
   unfold Hid
   rw[<-HA.o]
   have h9:=fin2 (hJ5.kp hk6) (mv.trans (hm5.trans (Mv.zk hk6))) ⟨lL o1r.1 hk6.size,o1r.2⟩ (Nat.le_refl _) hwc (.bool false) (.int .i64 0)
   exact zP.val ⟨false,0⟩ (num 0) _ (valOf.out _) _ _ R h9.1 (zb5 _ _) zkh h9.2
  clear mv a1 o1 hwc hJ5 hm5 o1r k1r hb6 hk6 c2 cl c2' cl' z2 f0 f1 f2
  go_wp2_with fail
  exact bR (by simp[results,Tryz.results112,go_sem,d0,d1]) Q.o
end
end Go.Proofs.YtkcmachfagcnaaaGreatDoor
namespace Go.Proofs.YtkcmachfagcnaaaGreatDoor
open Go.RowKit Go.Deep
section
variable {X : Fx} {w W w1 : World} {g : Pg} {m : AM} {R : Int → Int → Prop}
theorem pre1 (h : J X w g m R) (o : Obj) : Hid (Mv X w g (w.alloc o) g ∧ (w.alloc o).heap[w.heap.size]? = some o ∧ Off X (w.alloc o) g (w.heap.size) ∧ X.wc.heap.size ≤ w.heap.size) ∧ Hid (J X (w.alloc o) g m R) := by
  obtain ⟨j1, m1, a1, o1⟩ := zbe h o
  exact ⟨⟨m1, a1, o1, h.bl.size⟩, j1⟩
theorem pre2 (h : J X w g m R) (o p : Obj) : Hid (Mv X w g ((w.alloc o).alloc p) g ∧ ((w.alloc o).alloc p).heap[w.heap.size]? = some o ∧ Off X ((w.alloc o).alloc p) g (w.heap.size) ∧ ((w.alloc o).alloc p).heap[w.heap.size + 1]? = some p ∧ Off X ((w.alloc o).alloc p) g (w.heap.size + 1) ∧ X.wc.heap.size ≤ w.heap.size) ∧ Hid (J X ((w.alloc o).alloc p) g m R) := by
  obtain ⟨j1, m1, a1, o1⟩ := zbe h o
  obtain ⟨j2, m2, a2, o2⟩ := zbe j1 p
  rw [size_alloc] at a2 o2
  exact ⟨⟨m1.trans m2, zaj a1 _, o1.alloc _, a2, o2, h.bl.size⟩, j2⟩
theorem pre1W (h : J X w g m R) (o : Obj) : ∃ W, Hid (W = w.alloc o) ∧ Hid (Mv X w g W g ∧ W.heap[w.heap.size]? = some o ∧ Off X W g (w.heap.size) ∧ X.wc.heap.size ≤ w.heap.size) ∧ Hid (J X W g m R) := ⟨_, rfl, pre1 h o⟩
theorem pre2W (h : J X w g m R) (o p : Obj) : ∃ W, Hid (W = (w.alloc o).alloc p) ∧ Hid (Mv X w g W g ∧ W.heap[w.heap.size]? = some o ∧ Off X W g (w.heap.size) ∧ W.heap[w.heap.size + 1]? = some p ∧ Off X W g (w.heap.size + 1) ∧ X.wc.heap.size ≤ w.heap.size) ∧ Hid (J X W g m R) := ⟨_, rfl, pre2 h o p⟩
theorem hf2 {ap : Bool} {an : Int} {P S : Prop} (hB : P ∧ W.heap[w.heap.size]? = some (.cells #[.bool ap, .int .i64 an] 67) ∧ S) (hJ : J X W g m R) : Hid (∀ wx, Kp [] W wx → (wx.cell? ⟨w.heap.size, 0, none⟩ = some (.bool ap) ∧ wx.cell? ⟨w.heap.size, 1, none⟩ = some (.int .i64 an) ∧ w.heap.size < wx.heap.size) ∧ wx.cell? ⟨X.mm, 2, none⟩ = some (.pointer (some ⟨X.hp, 0, none⟩)) ∧ X.mm < wx.heap.size) := fun wx hx => by
  have hb1 := hJ.box.kp hx (by simp)
  have e1 := zaa (zad hB.2.1 hx)
  exact ⟨⟨e1.1, e1.2.1, e1.2.2.2.2⟩, hb1.heap.1, hb1.lt⟩
theorem endF {b : Nat} {c0 c1 : Value} {act : Act1} {k : Int} (hJ : J X W g m R) (mv : Mv X w g W g) (a : W.heap[b]? = some (.cells #[c0, c1] 67)) (o : Off X W g b) (hb : w.heap.size ≤ b) (hwc : X.wc.heap.size ≤ w.heap.size) (hk : Kp [] W w1) (ha : act = .wrong ∧ k = 4 ∨ act = .raise k ∧ -6 ≤ k ∧ k < 0) : (w1.cell? ⟨b, 0, none⟩ = some c0 ∧ w1.cell? ⟨b, 1, none⟩ = some c1 ∧ w1.frozen? ⟨b, 0, none⟩ = false ∧ w1.frozen? ⟨b, 1, none⟩ = false ∧ b < w1.heap.size) ∧ ((w1.setCell ⟨b, 0, none⟩ (.bool false)).setCell ⟨b, 1, none⟩ (.int .i64 0)).cell? ⟨b, 0, none⟩ = some (.bool false) ∧ ((w1.setCell ⟨b, 0, none⟩ (.bool false)).setCell ⟨b, 1, none⟩ (.int .i64 0)).cell? ⟨b, 1, none⟩ = some (.int .i64 0) ∧ Hid (zP X w g m act (.returned (.tuple #[.agg #[.bool false, .int .i64 0], .int .i64 k])) ((w1.setCell ⟨b, 0, none⟩ (.bool false)).setCell ⟨b, 1, none⟩ (.int .i64 0))) := by
  have hbz := zad a hk
  obtain ⟨d0, d1, _⟩ := zaa (zae hbz (.bool false) (.int .i64 0))
  refine ⟨zaa hbz, d0, d1, ?_⟩
  have h9 := fin2 (hJ.kp hk) (mv.trans (Mv.zk hk)) ⟨lL o.1 hk.size, o.2⟩ hb hwc (.bool false) (.int .i64 0)
  rcases ha with ⟨rfl, rfl⟩ | ⟨rfl, h2⟩
  · exact zdl h9
  · exact zck k h2 h9
theorem endF1 {c0 c1 : Value} {act : Act1} {k : Int} (hB : Mv X w g W g ∧ W.heap[w.heap.size]? = some (.cells #[c0, c1] 67) ∧ Off X W g (w.heap.size) ∧ X.wc.heap.size ≤ w.heap.size) (hJ : J X W g m R) (hk : Kp [] W w1) (ha : act = .wrong ∧ k = 4 ∨ act = .raise k ∧ -6 ≤ k ∧ k < 0) : (w1.cell? ⟨w.heap.size, 0, none⟩ = some c0 ∧ w1.cell? ⟨w.heap.size, 1, none⟩ = some c1 ∧ w1.frozen? ⟨w.heap.size, 0, none⟩ = false ∧ w1.frozen? ⟨w.heap.size, 1, none⟩ = false ∧ w.heap.size < w1.heap.size) ∧ ((w1.setCell ⟨w.heap.size, 0, none⟩ (.bool false)).setCell ⟨w.heap.size, 1, none⟩ (.int .i64 0)).cell? ⟨w.heap.size, 0, none⟩ = some (.bool false) ∧ ((w1.setCell ⟨w.heap.size, 0, none⟩ (.bool false)).setCell ⟨w.heap.size, 1, none⟩ (.int .i64 0)).cell? ⟨w.heap.size, 1, none⟩ = some (.int .i64 0) ∧ Hid (zP X w g m act (.returned (.tuple #[.agg #[.bool false, .int .i64 0], .int .i64 k])) ((w1.setCell ⟨w.heap.size, 0, none⟩ (.bool false)).setCell ⟨w.heap.size, 1, none⟩ (.int .i64 0))) := endF hJ hB.1 hB.2.1 hB.2.2.1 (Nat.le_refl _) hB.2.2.2 hk ha
theorem endF2 {o : Obj} {c0 c1 : Value} {act : Act1} {k : Int} (hB : Mv X w g W g ∧ W.heap[w.heap.size]? = some o ∧ Off X W g (w.heap.size) ∧ W.heap[w.heap.size + 1]? = some (.cells #[c0, c1] 67) ∧ Off X W g (w.heap.size + 1) ∧ X.wc.heap.size ≤ w.heap.size) (hJ : J X W g m R) (hk : Kp [] W w1) (ha : act = .wrong ∧ k = 4 ∨ act = .raise k ∧ -6 ≤ k ∧ k < 0) : (w1.cell? ⟨w.heap.size + 1, 0, none⟩ = some c0 ∧ w1.cell? ⟨w.heap.size + 1, 1, none⟩ = some c1 ∧ w1.frozen? ⟨w.heap.size + 1, 0, none⟩ = false ∧ w1.frozen? ⟨w.heap.size + 1, 1, none⟩ = false ∧ w.heap.size + 1 < w1.heap.size) ∧ ((w1.setCell ⟨w.heap.size + 1, 0, none⟩ (.bool false)).setCell ⟨w.heap.size + 1, 1, none⟩ (.int .i64 0)).cell? ⟨w.heap.size + 1, 0, none⟩ = some (.bool false) ∧ ((w1.setCell ⟨w.heap.size + 1, 0, none⟩ (.bool false)).setCell ⟨w.heap.size + 1, 1, none⟩ (.int .i64 0)).cell? ⟨w.heap.size + 1, 1, none⟩ = some (.int .i64 0) ∧ Hid (zP X w g m act (.returned (.tuple #[.agg #[.bool false, .int .i64 0], .int .i64 k])) ((w1.setCell ⟨w.heap.size + 1, 0, none⟩ (.bool false)).setCell ⟨w.heap.size + 1, 1, none⟩ (.int .i64 0))) := endF hJ hB.1 hB.2.2.2.1 hB.2.2.2.2.1 (Nat.le_succ _) hB.2.2.2.2.2 hk ha
end
end Go.Proofs.YtkcmachfagcnaaaGreatDoor
namespace Go.Proofs.YtkcmachfagcnaaaGreatDoor
open Go.RowKit Go.Deep Go.IntWalk
open C12 (Cd Fn In zT)
theorem zc2(p:Bool)(n:Int)(w:World):(Instr.field 67 (.agg #[.bool p,.int .i64 n]) 0).run Tryz.prog w=.ok (.bool p) w:=by kernel_rfl
section
variable{X:Fx}{w:World}{g:Pg}{m:AM}{R:Int->Int->Prop}
theorem J.views(h:J X w g m R){a b:Cl}(hab:zI R a b)(hp:b.p=true):a.p=true/\∃ u,m.D b.n=some u/\∃ pf:Nat->Cl,(∀ i,i < u.fs.length->zI R (pf i) (getA m.D b.n i)/\wfC (pf i))/\∀ wr,Kp [] w wr->∀ wx,Kp [] wr wx->(Calls Tryz.prog 76 #[.pointer (some ⟨X.hp,0,none⟩),.int .i64 a.n] wx fun e w'=>e=.returned (.int .i64 (u.fs.length:Nat))/\Kp [] wr w')/\(Calls Tryz.prog 78 #[.pointer (some ⟨X.hp,0,none⟩),.int .i64 a.n] wx fun e w'=>e=.returned (.int .i64 u.tag)/\Kp [] wr w')/\∀ i,i < u.fs.length->Calls Tryz.prog 82 #[.pointer (some ⟨X.hp,0,none⟩),.int .i64 a.n,.int .i64 (i:Nat)] wx fun e w'=>e=.returned (.agg #[.bool (pf i).p,.int .i64 (pf i).n])/\Kp [] wr w':=by
 have hap:=hab.1.trans hp
 obtain⟨_,t,u,ht,hu,hth⟩:=h.thing hab hap
 have hl:=hth.fs.len
 refine⟨hap,u,hu,fun i=>(t.fs[i]?).getD default,fun i hi=>?_,fun wr hr wx hx=>?_⟩
 ·have hi2:i < t.fs.length:=by omega
  simp only
  rw[gE hi2]
  obtain⟨_,_,_,_,k5⟩:=h.oth t (zg3 ht)
  exact⟨zim hu hth i hi2,k5 _ (List.getElem_mem hi2)⟩
 ·obtain⟨_,p1,p2,p3⟩:=(h.kp hr).pget wx hx a.n t ht
  refine⟨by rw[hl] at p2;exact p2,by rw[hth.tag] at p1;exact p1,fun i hi=>?_⟩
  have hi2:i < t.fs.length:=by omega
  simp only
  rw[gE hi2]
  exact p3 i hi2
theorem J.view(h:J X w g m R){a b:Cl}(hab:zI R a b)(hp:b.p=true):a.p=true/\∃ u,m.D b.n=some u/\∃ pf:Nat->Cl,(∀ i,i < u.fs.length->zI R (pf i) (getA m.D b.n i)/\wfC (pf i))/\∀ wx,Kp [] w wx->(Calls Tryz.prog 76 #[.pointer (some ⟨X.hp,0,none⟩),.int .i64 a.n] wx fun e w'=>e=.returned (.int .i64 (u.fs.length:Nat))/\Kp [] w w')/\(Calls Tryz.prog 78 #[.pointer (some ⟨X.hp,0,none⟩),.int .i64 a.n] wx fun e w'=>e=.returned (.int .i64 u.tag)/\Kp [] w w')/\∀ i,i < u.fs.length->Calls Tryz.prog 82 #[.pointer (some ⟨X.hp,0,none⟩),.int .i64 a.n,.int .i64 (i:Nat)] wx fun e w'=>e=.returned (.agg #[.bool (pf i).p,.int .i64 (pf i).n])/\Kp [] w w':=by
 obtain⟨h1,u,h2,pf,h3,h4⟩:=h.views hab hp
 exact⟨h1,u,h2,pf,h3,h4 w (Kp.refl _ _)⟩
theorem J.viewTs(h:J X w g m R){a b:Cl}(hab:zI R a b){n:Nat}(hk:isT m.D b n=true):a.p=true/\∃ pf:Nat->Cl,(∀ i,i < n->zI R (pf i) (getA m.D b.n i)/\wfC (pf i))/\∀ wr,Kp [] w wr->∀ wx,Kp [] wr wx->∀ i,i < n->Calls Tryz.prog 82 #[.pointer (some ⟨X.hp,0,none⟩),.int .i64 a.n,.int .i64 (i:Nat)] wx fun e w'=>e=.returned (.agg #[.bool (pf i).p,.int .i64 (pf i).n])/\Kp [] wr w':=by
 obtain⟨hp,t,ht,_,hl⟩:=zdv hk
 obtain⟨h1,u,hu,pf,h2,h3⟩:=h.views hab hp
 rw[ht] at hu
 cases hu
 rw[hl] at h2 h3
 exact⟨h1,pf,h2,fun wr hr wx hx=>(h3 wr hr wx hx).2.2⟩
theorem J.viewT(h:J X w g m R){a b:Cl}(hab:zI R a b){n:Nat}(hk:isT m.D b n=true):a.p=true/\∃ pf:Nat->Cl,(∀ i,i < n->zI R (pf i) (getA m.D b.n i)/\wfC (pf i))/\∀ wx,Kp [] w wx->∀ i,i < n->Calls Tryz.prog 82 #[.pointer (some ⟨X.hp,0,none⟩),.int .i64 a.n,.int .i64 (i:Nat)] wx fun e w'=>e=.returned (.agg #[.bool (pf i).p,.int .i64 (pf i).n])/\Kp [] w w':=by
 obtain⟨hp,t,ht,_,hl⟩:=zdv hk
 obtain⟨h1,u,hu,pf,h2,h3⟩:=h.view hab hp
 rw[ht] at hu
 cases hu
 rw[hl] at h2 h3
 exact⟨h1,pf,h2,fun wx hx=>(h3 wx hx).2.2⟩
theorem zr5(h:J X w g m R)(hd:okD X.cd m.D)(hn:0 < m.s.cA.length)(hnx:m.next+1<=1000000000)(a b:Cl)(hab:zI R a b)(htop:a=g.s.top 0/\b=m.s.top 0):Calls Tryz.prog 114 #[.pointer (some ⟨X.mm,0,none⟩),.agg #[.bool a.p,.int .i64 a.n]] w fun e w'=>zP X w g m (zf6 m.D b) e w':=by
 obtain⟨ap,an⟩:=a
 simp only
 obtain⟨w1,hw1,HB,HJ⟩:=pre2W h (.cells #[.bool ap,.int .i64 an] 67) (.cells #[.bool false,.int .i64 0] 67)
 have HT:Hid (∀ wx,Kp [] w1 wx->_):=zcz HJ.o ⟨ap,an⟩ b hab 2
 have HF:=hf2 HB.o HJ.o
 have Hn:Hid (0 < m.s.cA.length/\m.next+1<=1000000000/\okD X.cd m.D/\zI R ⟨ap,an⟩ b/\(⟨ap,an⟩:Cl)=g.s.top 0/\b=m.s.top 0):=⟨hn,hnx,hd,hab,htop⟩
 have HK0:Hid (Kp [] w1 w1.drew):=kr.drew
 have HND:=zh h.nd
 clear hn hnx hd htop h
 generalize hA:zf6 m.D b=act
 have HA:=zh hA
 clear hA
 unfold zf6 at HA
 go_enter Tryz.func114,Tryz.ntmps114
 go_upto_region 1 with fail
 rw[<-hw1.out]
 cases k1:isT m.D b 2 with
 | false=>
  rw[k1] at HA HT
  clear hab
  rw[Bool.false_and,if_neg Bool.false_ne_true] at HA
  refine rQ HK0.o (fun ops Hops=>?_)
  iterate 5
   (refine wQ ?_;apply xI;(·intro wx hwx;obtain⟨⟨f0,f1,f2⟩,f3,f4⟩:=HF.o wx hwx;go_simp <;> first | with_reducible rfl | with_reducible exact⟨rfl,rfl⟩ | exact HT.o _ hwx);try go_simp)
  iterate 8
   (refine wU ?_;go_simp)
  (refine wQ ?_;apply xI;(·intro wx hwx;go_simp <;> first | rfl | exact⟨rfl,rfl⟩);try go_simp)
  refine wpQuiet_nil ?_
  clear Hops ops
  intro w2 hw2
  obtain⟨⟨y0,y1,z0,z1,cl⟩,d0,d1,Q⟩:=endF2 HB.o HJ.o hw2 (.inl ⟨HA.o.symm,rfl⟩)
  clear k1 hw2
  go_wp2_with fail
  exact bR (by simp[results,Tryz.results114,go_sem,d0,d1]) Q.o
 | true=>
  obtain⟨hap,pf,hpf,hget⟩:=HJ.o.viewT hab k1
  simp only at hap
  subst hap
  rw[k1] at HA HT
  rw[Bool.true_and] at HA
  have HG0:Hid (∀ wx,Kp [] w1 wx->Calls Tryz.prog 82 #[.pointer (some ⟨X.hp,0,none⟩),.int .i64 an,.int .i64 0] wx fun e w'=>e=.returned (.agg #[.bool (pf 0).p,.int .i64 (pf 0).n])/\Kp [] w1 w'):=fun wx hx=>hget wx hx 0 (by omega)
  obtain⟨⟨q1,q2,-⟩,-⟩:=hpf 0 (by omega)
  have Hpf:=zh hpf
  have Hq:Hid (_/\_):=⟨q1,q2⟩
  clear hget hpf hab q1 q2
  generalize pf 0=c0 at *
  obtain⟨cp,cn⟩:=c0
  simp only at HG0 Hq
  have hf0:=zc2 cp cn
  have hf1:=za9 cp cn
  cases cp with
  | true=>
   rw[<-Hq.o.1,Bool.not_true,if_neg Bool.false_ne_true] at HA
   refine rQ HK0.o (fun ops Hops=>?_)
   repeat
    (refine wQ ?_;apply xI;(·intro wx hwx;obtain⟨⟨f0,f1,f2⟩,f3,f4⟩:=HF.o wx hwx;go_simp <;> first | with_reducible rfl | with_reducible exact⟨rfl,rfl⟩ | with_reducible exact HT.o _ hwx | with_reducible exact HG0.o _ hwx | exact HT.o _ hwx | exact HG0.o _ hwx);try go_simp)
   refine wpQuiet_nil ?_
   clear Hops ops
   intro w2 hw2
   obtain⟨⟨y0,y1,z0,z1,cl⟩,d0,d1,Q⟩:=endF2 HB.o HJ.o hw2 (.inl ⟨HA.o.symm,rfl⟩)
   clear k1 hw2 hf0 hf1
   go_wp2_with fail
   exact bR (by simp[results,Tryz.results114,go_sem,d0,d1]) Q.o
  | false=>
   rw[<-Hq.o.1,Bool.not_false,if_pos rfl,<-Hq.o.2 rfl] at HA
   refine rQ HK0.o (fun ops Hops=>?_)
   repeat
    (refine wQ ?_;apply xI;(·intro wx hwx;obtain⟨⟨f0,f1,f2⟩,f3,f4⟩:=HF.o wx hwx;go_simp <;> first | with_reducible rfl | with_reducible exact⟨rfl,rfl⟩ | with_reducible exact HT.o _ hwx | with_reducible exact HG0.o _ hwx | exact HT.o _ hwx | exact HG0.o _ hwx);try go_simp)
   refine wpQuiet_nil ?_
   clear Hops ops
   intro w2 hw2
   have HK2:=zh hw2.drew
   have Hw2:=zh hw2
   clear hw2
   go_upto_region 3 with fail
   refine rQ HK2.o (fun ops Hops=>?_)
   repeat
    (refine wQ ?_;apply xI;(·intro wx hwx;obtain⟨⟨f0,f1,f2⟩,f3,f4⟩:=HF.o wx hwx;go_simp <;> first | with_reducible rfl | with_reducible exact⟨rfl,rfl⟩ | exact HG0.o _ hwx);try go_simp)
   refine wpQuiet_nil ?_
   clear Hops ops
   intro w3 hw3
   have Hw3:=zh hw3
   clear hw3 hf0 hf1
   by_cases c1:cn < 0
   ·rw[if_pos (Or.inl c1)] at HA
    obtain⟨⟨y0,y1,z0,z1,cl⟩,d0,d1,Q⟩:=endF2 HB.o HJ.o Hw3.o (.inr ⟨HA.o.symm,by decide,by decide⟩)
    clear k1
    go_wp2_with fail
    exact bR (by simp[results,Tryz.results114,go_sem,d0,d1]) Q.o
   ·by_cases c2:(100:Int) < cn
    ·rw[if_pos (Or.inr c2)] at HA
     obtain⟨⟨y0,y1,z0,z1,cl⟩,d0,d1,Q⟩:=endF2 HB.o HJ.o Hw3.o (.inr ⟨HA.o.symm,by decide,by decide⟩)
     clear k1
     go_wp2_with fail
     exact bR (by simp[results,Tryz.results114,go_sem,d0,d1]) Q.o
    ·rw[if_neg (by omega)] at HA
     obtain⟨N,rfl⟩:∃ N:Nat,cn=(N:Int):=⟨cn.toNat,by omega⟩
     rw[Int.toNat_natCast] at HA
     have HM:Hid _:=zgt (HJ.o.kp Hw3.o) Hn.o.1 Hn.o.2.1 3 1 N (by omega)
     have HNr:Hid (N<=100):=by unfold Hid;omega
     go_wp2_with fail
     refine cM HM.o ?_
     intro e w4 q
     cases q with
     | no w4 g' R' hr hJ hmv=>
      obtain⟨mv,a1,o1,a2,o2,hwc⟩:=HB.o
      have o2':Off X w3 g (w.heap.size+1):=⟨lL o2.1 Hw3.o.size,o2.2⟩
      obtain⟨o2r,k2r⟩:=o2'.mv hmv
      have hk5:Kp [] w4 (w4.alloc (.cells #[.bool false,.int .i64 0] 67)):=kA
      have hbz:=zad (k2r.trans (zad a2 Hw3.o)) hk5
      obtain⟨e0,e1,_,_,el⟩:=zaa (zab w4 (.cells #[.bool false,.int .i64 0] 67))
      obtain⟨y0,y1,z0,z1,cl⟩:=zaa hbz
      obtain⟨d0,d1,_⟩:=zaa (zae hbz (.bool false) (.int .i64 0))
      have Q:Hid (zP X w g m act (.returned (.tuple #[.agg #[.bool false,.int .i64 0],.int .i64 3])) (((w4.alloc (.cells #[.bool false,.int .i64 0] 67)).setCell ⟨w.heap.size+1,0,none⟩ (.bool false)).setCell ⟨w.heap.size+1,1,none⟩ (.int .i64 0))):=by
       unfold Hid
       rw[<-HA.o]
       have h9:=fin2 (hJ.kp hk5) ((mv.trans (Mv.zk Hw3.o)).trans (hmv.trans (Mv.zk hk5))) ⟨lL o2r.1 hk5.size,o2r.2⟩ (show w.heap.size<=w.heap.size+1 by omega) hwc (.bool false) (.int .i64 0)
       exact zP.fail 3 m.bump (failOf.make _ (by simpa using hr)) _ g' R' h9.1 h9.2
      clear a1 o1 a2 o2 mv hwc hbz hk5 o2' o2r k2r hJ hmv hr k1
      go_wp2_with fail
      exact bR (by simp[results,Tryz.results114,go_sem,d0,d1]) Q.o
     | yes w4 g' R' x hr hJ hR hwf hmv=>
      obtain⟨mv,a1,o1,a2,o2,hwc⟩:=HB.o
      have o2':Off X w3 g (w.heap.size+1):=⟨lL o2.1 Hw3.o.size,o2.2⟩
      obtain⟨o2r,k2r⟩:=o2'.mv hmv
      have hk5:Kp [] w4 (w4.alloc (.cells #[.bool true,.int .i64 x] 67)):=kA
      have hJ5:=hJ.kp hk5
      have hb5:(w4.alloc (.cells #[.bool true,.int .i64 x] 67)).heap[w4.heap.size]? = some (.cells #[.bool true,.int .i64 x] 67):=zab w4 _
      have hbz:=zad (k2r.trans (zad a2 Hw3.o)) hk5
      have o5:Off X (w4.alloc (.cells #[.bool true,.int .i64 x] 67)) g' w4.heap.size:=hJ.off (Nat.le_refl _) (by simp)
      have o25:Off X (w4.alloc (.cells #[.bool true,.int .i64 x] 67)) g' (w.heap.size+1):=⟨lL o2r.1 hk5.size,o2r.2⟩
      have HS:Hid (_/\_/\_/\_/\_/\_/\_/\_/\_):=⟨hb5,hbz,o5,o25,hR,hr,hwf,hwc,(mv.trans (Mv.zk Hw3.o)).trans (hmv.trans (Mv.zk hk5))⟩
      have HJ5:=zh hJ5
      have hbD:=k1
      have HbT:=zh hbD
      clear a1 o1 a2 o2 mv hwc hbz hk5 o2' o2r k2r hJ hJ5 hmv hr hR hwf hb5 o5 o25 hbD k1
      obtain⟨V,hV⟩:∃ V,V=getA m.D b.n 1:=⟨_,rfl⟩
      rw[<-hV] at HA
      have HV:=zh hV
      clear hV
      go_wp2_with fail
      generalize w4.alloc _=w5 at *
      generalize w4.heap.size=b5 at *
      go_loopw [49] (fun iv wr=>∃ (i:Nat),i<=N/\iv=.int .i64 (i:Nat)/\Hid (∃ ts',J X wr {g' with ts:=ts'} (m.make ⟨3,1,fsAt (List.replicate N V) N i⟩) R'/\Mv X w5 g' wr {g' with ts:=ts'})) (fun i _=>N - (intOf i).toNat)
      case atStart=>
       refine⟨0,Nat.zero_le _,rfl,g'.ts,?_,Mv.refl _ _ _⟩
       rw[zgy]
       exact HJ5.o
      case round=>
       obtain⟨i,hi,rfl,HL⟩:=hrel
       obtain⟨ts',hJr,hmr⟩:=HL.o
       obtain⟨hb5,hbz,o5,o25,hR,hr,hwf,hwc,hmw⟩:=HS.o
       obtain⟨o5r,k5r⟩:=o5.mv hmr
       obtain⟨o25r,k25r⟩:=o25.mv hmr
       have hb5r:=k5r.trans hb5
       have hbzr:=k25r.trans hbz
       by_cases hin:i < N
       ·have h1:=Int.ofNat_lt.2 hin
        have h2:=zge i (by have:=HNr.o;omega)
        obtain⟨hbp,t0,ht0,hk0,hl0⟩:=zdv HbT.o
        have hbe:=Hn.o.2.2.2.2.2
        have hv0:0 < m.s.vA.length:=by
         rcases Nat.eq_zero_or_pos m.s.vA.length with e | e
         ·rw[hbe,show m.s.top 0=default by unfold St.top;rw[List.getElem?_eq_none (by omega)];rfl] at hbp
          cases hbp
         ·exact e
        have hvl:=hJr.vlen
        have hti:zI R' (g'.s.top 0) b:=by rw[hbe];exact hJr.top 0 hv0
        obtain⟨_,u,hu,pf,hpf,hpg⟩:=hJr.view hti hbp
        have hlt:b.n < m.next:=by
         have:=hJr.nd b.n (by rw[hu];rfl)
         by_cases e:b.n=m.next
         ·exfalso
          have h3:(m.make ⟨3,1,fsAt (List.replicate N V) N i⟩).D b.n=some ⟨3,1,fsAt (List.replicate N V) N i⟩:=by rw[e];exact zbf _ _ _
          have h4:=ht0
          have h5:=hJr.one
          exact absurd (HND.o b.n (by rw[h4];rfl)) (by omega)
         ·have:b.n < m.next+1:=this
          omega
        have hue:u=t0:=by
         have h3:upd m.D m.next (some ⟨3,1,fsAt (List.replicate N V) N i⟩) b.n=some u:=hu
         rw[zav _ _ (by omega),ht0] at h3
         exact(Option.some.inj h3).symm
        subst hue
        have hgv:getA (m.make ⟨3,1,fsAt (List.replicate N V) N i⟩).D b.n 1=V:=by
         have e5:getA (m.make ⟨3,1,fsAt (List.replicate N V) N i⟩).D b.n 1=getA m.D b.n 1:=by
          unfold getA
          rw[hu,ht0]
         rw[e5]
         exact HV.o.symm
        obtain⟨hc1,hw1⟩:=hpf 1 (by omega)
        rw[hgv] at hc1
        have HF:Hid (∀ wx,Kp [] wr wx->(wx.cell? ⟨X.mm,2,none⟩=some (.pointer (some ⟨X.hp,0,none⟩))/\X.mm < wx.heap.size)/\wx.cell? ⟨b5,0,none⟩=some (.bool true)/\wx.cell? ⟨b5,1,none⟩=some (.int .i64 x)/\b5 < wx.heap.size):=fun wx hx=>by
         have e1:=(hx.block _ o5r.1 (by simp)).trans hb5r
         have hb1:=hJr.box.kp hx (by simp)
         exact⟨⟨hb1.heap.1,hb1.lt⟩,by simp only[World.cell?,e1];rfl,by simp only[World.cell?,e1];rfl,(sz e1)⟩
        have HT:Hid (∀ wx,Kp [] wr wx->Calls Tryz.prog 49 #[.pointer (some ⟨X.mm,0,none⟩),.int .i64 0] wx fun e w'=>e=.returned (.agg #[.bool (g'.s.top 0).p,.int .i64 (g'.s.top 0).n])/\Kp [] wr w'):=zbc hJr 0 (by rw[hvl];exact hv0)
        have HG:Hid (∀ wx,Kp [] wr wx->Calls Tryz.prog 82 #[.pointer (some ⟨X.hp,0,none⟩),.int .i64 (g'.s.top 0).n,.int .i64 1] wx fun e w'=>e=.returned (.agg #[.bool (pf 1).p,.int .i64 (pf 1).n])/\Kp [] wr w'):=fun wx hx=>(hpg wx hx).2.2 1 (by omega)
        have HSet:Hid (∀ wx,Kp [] wr wx->Calls Tryz.prog 52 #[.pointer (some ⟨X.hp,0,none⟩),.int .i64 x,.int .i64 i,.agg #[.bool (pf 1).p,.int .i64 (pf 1).n]] wx fun e w'=>e=.returned (.tuple #[])/\∃ ts2,J X w' {g' with ts:=ts2} (m.make ⟨3,1,fsAt (List.replicate N V) N (i+1)⟩) R'/\Mv X w5 g' w' {g' with ts:=ts2}):=fun wx hx=>by
         have hlen:(List.replicate N V).length=N:=by simp
         refine cM (zdp (hJr.kp hx) hR i (by rw[zd8];simp only;rw[zin _ _ _ hlen hi];exact hin) (pf 1) V hc1 hw1) ?_
         rintro e w' ⟨rfl,ts2,hJ2,hm2⟩
         refine⟨rfl,ts2,?_,hmr.trans ((Mv.zk hx).trans hm2)⟩
         have hil:i < (List.replicate N V).length:=by rw[hlen];exact hin
         have e3:(List.replicate N V)[i]'hil=V:=by simp
         rw[zgc] at hJ2
         simp only at hJ2
         have e4:=zgz (List.replicate N V) N i hlen hil
         rw[e3] at e4
         rw[e4] at hJ2
         exact hJ2
        clear hJr hmr hb5 hbz o5 o25 hR hr hwf hwc hmw o5r k5r o25r k25r hb5r hbzr hvl hv0 hti hu hpf hpg hlt hgv hc1 hw1 hbp ht0 hk0 hl0 hbe
        generalize g'.s.top 0=tc at *
        obtain⟨tp,tn⟩:=tc
        generalize pf 1=c1 at *
        obtain⟨c1p,c1n⟩:=c1
        simp only at HT HG HSet
        have hf1:=za9 tp tn
        go_upto_region 11 with fail
        refine zan 15 (C:=fun wx=>Kp [] wr wx) (by kernel_rfl) ?_
        refine qT 0 rfl ?_
        apply xI
        (intro wx hwx;go_simp <;> rfl)
        refine qT 1 rfl ?_
        apply xI
        (intro wx hwx;go_simp <;> rfl)
        refine qT 2 rfl ?_
        apply xI
        (intro wx hwx;go_simp <;> rfl)
        refine qT 3 rfl ?_
        apply xI
        (intro wx hwx;obtain⟨⟨f3,f4⟩,f0,f1,f2⟩:=HF.o wx hwx;go_simp <;> rfl)
        refine qT 4 rfl ?_
        apply xI
        (intro wx hwx;go_simp <;> rfl)
        refine qT 5 rfl ?_
        apply xI
        (intro wx hwx;obtain⟨⟨f3,f4⟩,f0,f1,f2⟩:=HF.o wx hwx;go_simp <;> rfl)
        refine qT 6 rfl ?_
        apply xI
        (intro wx hwx;go_simp <;> rfl)
        refine qT 7 rfl ?_
        apply xI
        (intro wx hwx;go_simp <;> rfl)
        refine qT 8 rfl ?_
        apply xI
        (intro wx hwx;go_simp <;> rfl)
        refine qT 9 rfl ?_
        apply xI
        (intro wx hwx;go_simp <;> rfl)
        refine qT 10 rfl ?_
        apply xI
        (intro wx hwx;obtain⟨⟨f3,f4⟩,f0,f1,f2⟩:=HF.o wx hwx;go_simp <;> rfl)
        refine qT 11 rfl ?_
        apply xI
        (intro wx hwx;go_simp <;> rfl)
        refine oL 12 (Kp.refl _ _).drew rfl (fun K hK=>?_)
        go_simp
        refine cM (HT.o _ (Kp.refl _ _).drew) ?_
        rintro e8 w8 ⟨rfl,hw8⟩
        refine hK _ _ ?_
        clear hK K
        refine oL 13 hw8 rfl (fun K hK=>?_)
        go_simp
        refine hK _ _ ?_
        clear hK K
        refine oL 14 hw8 rfl (fun K hK=>?_)
        go_simp
        refine cM (HG.o _ hw8) ?_
        rintro e9 w9 ⟨rfl,hw9⟩
        refine hK _ _ ?_
        clear hK K
        refine oL 15 hw9 rfl (fun K hK=>?_)
        go_simp
        refine cM (HSet.o _ hw9) ?_
        rintro e10 w10 ⟨rfl,ts2,hJ2,hm2⟩
        refine hK _ _ ?_
        clear hK K
        refine zas (by kernel_rfl) (by kernel_rfl) ?_
        go_simp
        have HQ:Hid (∃ ts',J X w10 {g' with ts:=ts'} (m.make ⟨3,1,fsAt (List.replicate N V) N (i+1)⟩) R'/\Mv X w5 g' w10 {g' with ts:=ts'}):=⟨ts2,hJ2,hm2⟩
        have Hin:=zh hin
        clear hJ2 hm2 hw9 hw8 h1 hin hi hf1
        go_wp2_with fail
        go_roundw
        case rel=>exact⟨i+1,Hin.o,by first | rfl | (congr 1;omega) | go_num,HQ⟩
        case measure=>have:=Hin.o;rw[h2];clear h2;simp[intOf];omega
       ·have e:i=N:=zdf hi hin
        subst e
        have h1:¬ ((i:Int) < (i:Int)):=Int.lt_irrefl _
        rw[zio _ _ (by simp)] at hJr
        obtain⟨y0,y1,z0,z1,cl⟩:=zaa hbzr
        obtain⟨e0,e1,_,_,el⟩:=zaa hb5r
        obtain⟨d0,d1,_⟩:=zaa (zae hbzr (.bool true) (.int .i64 x))
        have Q:Hid (zP X w g m act (.returned (.tuple #[.agg #[.bool true,.int .i64 x],.int .i64 0])) ((wr.setCell ⟨w.heap.size+1,0,none⟩ (.bool true)).setCell ⟨w.heap.size+1,1,none⟩ (.int .i64 x))):=by
         unfold Hid
         rw[<-HA.o]
         have h9:=fin2 hJr (hmw.trans hmr) o25r (show w.heap.size<=w.heap.size+1 by omega) hwc (.bool true) (.int .i64 x)
         exact zP.val ⟨true,x⟩ ⟨true,m.next⟩ _ (valOf.make _ (by simpa using hr)) _ _ R' h9.1 ⟨rfl,(fun e=>by cases e),fun _=>hR⟩ hwf h9.2
        clear hJr hmr hb5 hbz o5 o25 hR hr hwf hwc hmw o5r k5r o25r k25r hb5r hbzr
        go_wp2_with fail
        exact bR (by simp[results,Tryz.results114,go_sem,d0,d1]) Q.o
end
theorem zw2:Tryz.prog.underlying 67=some (.struct (Tryz.prog.fieldsOf 67)):=by kernel_rfl
theorem zxi:Tryz.prog.stoodInHeld 67=false:=by kernel_rfl
theorem eq67(p q:Bool)(n k:Int)(w:World):(binOp .eql 67 (.agg #[.bool p,.int .i64 n]) (.agg #[.bool q,.int .i64 k])).run Tryz.prog w=.ok (.bool (p == q && n == k)) w:=by
 have u3:=Tryz.underlying3
 have u4:=Tryz.underlying4
 rw[run_eql_struct,show(10000:Nat)=9999+1 from rfl,run_equalIn_agg w 9999 67 _ _ zw2 zxi]
 simp only[Program.fieldsOf,Tryz.underlying67]
 go_simp
 by_cases h1:p=q <;> by_cases h2:n=k <;> simp[h1,h2]
theorem zg9{R:Int->Int->Prop}(h1:OneOne R){a b c d:Cl}(hab:zI R a b)(hcd:zI R c d):(a.p == c.p && a.n == c.n)=decide (b=d):=by
 obtain⟨e1,e2,e3⟩:=hab
 obtain⟨f1,f2,f3⟩:=hcd
 have hd:decide (b=d)=(b.p == d.p && b.n == d.n):=by
  cases b
  cases d
  simp only[Cl.mk.injEq]
  rw[Bool.decide_and]
  rfl
 rw[hd,e1,f1]
 cases hp:b.p with
 | false=>
  cases hq:d.p with
  | false=>rw[e2 (by rw[e1];exact hp),f2 (by rw[f1];exact hq)]
  | true=>rfl
 | true=>
  cases hq:d.p with
  | false=>rfl
  | true=>
   have r1:=e3 (by rw[e1];exact hp)
   have r2:=f3 (by rw[f1];exact hq)
   by_cases h:a.n=c.n
   ·have h2:=h1.1 _ _ _ r1 (h ▸ r2)
    simp[h,h2]
   ·have h2:b.n≠d.n:=fun e=>h (h1.2 _ _ _ r1 (e ▸ r2))
    rw[beq_eq_false_iff_ne.2 h,beq_eq_false_iff_ne.2 h2]
theorem ze4(w:World)(ap:Bool)(an:Int)(bp:Bool)(bn:Int):Calls Tryz.prog 126 #[.agg #[.bool ap,.int .i64 an],.agg #[.bool bp,.int .i64 bn]] w fun e w'=>e=.returned (.bool (ap == bp && an == bn))/\Kp [] w w':=by
 have Q:Hid (Kp [] w ((w.alloc (.cells #[.bool ap,.int .i64 an] 67)).alloc (.cells #[.bool bp,.int .i64 bn] 67))):=kA.trans kA
 obtain⟨f0,f1,_,_,f2⟩:=zaa (zaj (zab w (.cells #[.bool ap,.int .i64 an] 67)) (.cells #[.bool bp,.int .i64 bn] 67))
 obtain⟨g0,g1,_,_,g2⟩:=zaa (zab (w.alloc (.cells #[.bool ap,.int .i64 an] 67)) (.cells #[.bool bp,.int .i64 bn] 67))
 rw[size_alloc] at g0 g1 g2
 have heq:=eq67 ap bp an bn
 generalize (ap == bp && an == bn)=r at *
 go_enter Tryz.func126,Tryz.ntmps126
 go_wp2_with fail
 exact bR (by simp[results,Tryz.results126,go_sem]) ⟨rfl,Q.o⟩
end Go.Proofs.YtkcmachfagcnaaaGreatDoor
