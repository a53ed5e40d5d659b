/- Part of Greater. -/
import Derived.Test.YtkcmachfagcnaaaGreatDoorB28
set_option maxHeartbeats 8000000
set_option maxRecDepth 100000
namespace Go.Proofs.YtkcmachfagcnaaaGreatDoor
open Go.RowKit Go.Deep Go.IntWalk
open C12 (Cd Fn In zT)
section
variable{X:Fx}{w:World}{g:Pg}{m:AM}{R:Int->Int->Prop}
theorem size_alloc(w:World)(o:Obj):(w.alloc o).heap.size=w.heap.size+1:=by simp
theorem zbe(h:J X w g m R)(o:Obj):J X (w.alloc o) g m R/\Mv X w g (w.alloc o) g/\(w.alloc o).heap[w.heap.size]? = some o/\Off X (w.alloc o) g w.heap.size:=⟨h.kp kA,Mv.zk kA,zab w o,h.off (Nat.le_refl _) (by simp)⟩
theorem zaj{b:Nat}{o:Obj}(h:w.heap[b]? = some o)(o2:Obj):(w.alloc o2).heap[b]? = some o:=zad h kA
theorem Off.alloc{b:Nat}(h:Off X w g b)(o:Obj):Off X (w.alloc o) g b:=⟨lL h.1 (by simp),h.2⟩
theorem fin2{w2:World}{g2:Pg}{m2:AM}{R2:Int->Int->Prop}{b:Nat}(hJ:J X w2 g2 m2 R2)(hm:Mv X w g w2 g2)(ho:Off X w2 g2 b)(hb:w.heap.size<=b)(hwc:X.wc.heap.size<=w.heap.size)(u1 u2:Value):J X ((w2.setCell ⟨b,0,none⟩ u1).setCell ⟨b,1,none⟩ u2) g2 m2 R2/\Mv X w g ((w2.setCell ⟨b,0,none⟩ u1).setCell ⟨b,1,none⟩ u2) g2:=⟨hJ.box2 ho (Nat.le_trans hwc hb) _ _,(hm.setOff hb _ _).setOff hb _ _⟩
theorem zdl{w':World}{g':Pg}{R':Int->Int->Prop}(h:J X w' g' m R'/\Mv X w g w' g'):zP X w g m .wrong (.returned (.tuple #[.agg #[.bool false,.int .i64 0],.int .i64 4])) w':=.fail 4 m .wrong w' g' R' h.1 h.2
theorem zck{w':World}{g':Pg}{R':Int->Int->Prop}(k:Int)(hk:-6<=k/\k < 0)(h:J X w' g' m R'/\Mv X w g w' g'):zP X w g m (.raise k) (.returned (.tuple #[.agg #[.bool false,.int .i64 0],.int .i64 k])) w':=.fail k m (.raise k hk) w' g' R' h.1 h.2
theorem za4{w':World}{g':Pg}{R':Int->Int->Prop}{p v:Cl}(hp:zI R' p v)(hw:wfC p)(h:J X w' g' m R'/\Mv X w g w' g'):zP X w g m (.give v) (.returned (.tuple #[.agg #[.bool p.p,.int .i64 p.n],.int .i64 0])) w':=.val p v m (.give v) w' g' R' h.1 hp hw h.2
theorem zP.lift{w1:World}{g1:Pg}{a:Act1}{e:Ending}{w2:World}{b:Nat}(h:zP X w1 g1 m a e w2)(hm:Mv X w g w1 g1)(hbx:w1.heap[b]? = some (.cells #[.bool false,.int .i64 0] 67))(ho:Off X w1 g1 b)(hb:w.heap.size<=b)(hwc:X.wc.heap.size<=w.heap.size):∃ p n f,e=.returned (.tuple #[.agg #[.bool p,.int .i64 n],.int .i64 f])/\w2.heap[b]? = some (.cells #[.bool false,.int .i64 0] 67)/\zP X w g m a (.returned (.tuple #[.agg #[.bool p,.int .i64 n],.int .i64 f])) ((w2.setCell ⟨b,0,none⟩ (.bool p)).setCell ⟨b,1,none⟩ (.int .i64 n)):=by
 cases h with
 | fail f m' hf w' g' R' hJ hm2=>
  obtain⟨o2,k2⟩:=ho.mv hm2
  have h9:=fin2 hJ (hm.trans hm2) o2 hb hwc (.bool false) (.int .i64 0)
  exact⟨_,_,_,rfl,k2.trans hbx,.fail f m' hf _ g' R' h9.1 h9.2⟩
 | val p v m' hv w' g' R' hJ hp hw hm2=>
  obtain⟨o2,k2⟩:=ho.mv hm2
  have h9:=fin2 hJ (hm.trans hm2) o2 hb hwc (.bool p.p) (.int .i64 p.n)
  exact⟨_,_,_,rfl,k2.trans hbx,.val p v m' hv _ g' R' h9.1 hp hw h9.2⟩
inductive Pur:Act1->Prop
 | num (n:Int) (h:-1000000000<=n/\n<=1000000000):Pur (.give (num n))
 | raise (k:Int) (h:-6<=k/\k < 0):Pur (.raise k)
 | wrong:Pur .wrong
theorem zpt(n:Int):Pur (inR n):=by
 unfold inR
 split
 ·exact .raise _ ⟨by decide,by decide⟩
 ·exact .num _ (by omega)
theorem zps(b:Bool):Pur (.give (truth b)):=by
 unfold truth
 apply Pur.num
 split <;> omega
theorem zss(k:Nat)(a b:Int):Pur (reck k a b):=by
 unfold reck
 repeat' split
 all_goals first | exact zpt _ | exact zps _ | exact .raise _ ⟨by decide,by decide⟩
theorem Pur.act{a:Act1}(ha:Pur a){w':World}(h:J X w' g m R)(hm:Mv X w g w' g):zP X w g m a (.returned (purV a)) w':=by
 cases ha with
 | num n hn=>exact za4 (p:=⟨false,n⟩) (zb5 _ _) (zco (by omega)) ⟨h,hm⟩
 | raise k hk=>exact zck k hk ⟨h,hm⟩
 | wrong=>exact zdl ⟨h,hm⟩
theorem zP.mv{w1:World}{g1:Pg}{a:Act1}{e:Ending}{w2:World}(h:zP X w1 g1 m a e w2):∃ g2,Mv X w1 g1 w2 g2:=by
 cases h with
 | fail f m' hf w' g' R' hJ hm2=>exact⟨g',hm2⟩
 | val p v m' hv w' g' R' hJ hp hw hm2=>exact⟨g',hm2⟩
theorem zb7{w2:World}{b c:Nat}(h:c≠b){u1 u2:Value} : ((w2.setCell ⟨b,0,none⟩ u1).setCell ⟨b,1,none⟩ u2).heap[c]? = w2.heap[c]?:=by
 simp[World.setCell,Array.getElem?_modify,Ne.symm h]
theorem zkh:wfC ⟨false,0⟩:=zco (by omega)
theorem zj9(h:J X w g m R)(hd:okD X.cd m.D)(a b p v:Cl)(hab:zI R a b)(hpv:zI R p v)(hwf:wfC p):Calls Tryz.prog 108 #[.pointer (some ⟨X.mm,0,none⟩),.agg #[.bool a.p,.int .i64 a.n],.agg #[.bool p.p,.int .i64 p.n]] w fun e w'=>zP X w g m (if isC m.D b 0 then .set b.n 0 v else .wrong) e w':=by
 have hwc:=h.bl.size
 obtain⟨ap,an⟩:=a
 obtain⟨vp,vn⟩:=p
 simp only
 obtain⟨j1,m1,a1,o1⟩:=zbe h (.cells #[.bool ap,.int .i64 an] 67)
 obtain⟨j2,m2,a2,o2⟩:=zbe j1 (.cells #[.bool vp,.int .i64 vn] 67)
 obtain⟨j3,m3,a3,o3⟩:=zbe j2 (.cells #[.bool false,.int .i64 0] 67)
 rw[size_alloc] at a2 o2
 rw[size_alloc,size_alloc] at a3 o3
 have HB:Hid (_/\(((w.alloc (.cells #[.bool ap,.int .i64 an] 67)).alloc (.cells #[.bool vp,.int .i64 vn] 67)).alloc (.cells #[.bool false,.int .i64 0] 67)).heap[w.heap.size]? = some (.cells #[.bool ap,.int .i64 an] 67)/\Off X (((w.alloc (.cells #[.bool ap,.int .i64 an] 67)).alloc (.cells #[.bool vp,.int .i64 vn] 67)).alloc (.cells #[.bool false,.int .i64 0] 67)) g w.heap.size/\(((w.alloc (.cells #[.bool ap,.int .i64 an] 67)).alloc (.cells #[.bool vp,.int .i64 vn] 67)).alloc (.cells #[.bool false,.int .i64 0] 67)).heap[w.heap.size+1]? = some (.cells #[.bool vp,.int .i64 vn] 67)/\Off X (((w.alloc (.cells #[.bool ap,.int .i64 an] 67)).alloc (.cells #[.bool vp,.int .i64 vn] 67)).alloc (.cells #[.bool false,.int .i64 0] 67)) g (w.heap.size+1)/\_/\_/\_):=⟨m1.trans (m2.trans m3),zaj (zaj a1 _) _,(o1.alloc _).alloc _,zaj a2 _,o2.alloc _,a3,o3,hwc⟩
 have HJ:=zh j3
 have HIs:Hid _:=zc0 j3 ⟨ap,an⟩ b hab 0 _ kr
 have c0:=(zaa (zaj (zaj a1 (.cells #[.bool vp,.int .i64 vn] 67)) (.cells #[.bool false,.int .i64 0] 67))).1
 have c1:=(zaa (zaj (zaj a1 (.cells #[.bool vp,.int .i64 vn] 67)) (.cells #[.bool false,.int .i64 0] 67))).2.1
 have Hab:Hid (_/\_/\_):=⟨hab,hpv,hwf⟩
 have Hd:=zh hd
 clear j1 m1 a1 o1 j2 m2 a2 o2 j3 m3 a3 o3 h hab hpv hwf hd hwc
 generalize hA:(if isC m.D b 0=true then Act1.set b.n 0 v else Act1.wrong)=act
 have HA:=zh hA
 clear hA
 cases hc:isC m.D b 0 with
 | false=>
  simp only[hc] at HIs
  go_enter Tryz.func108,Tryz.ntmps108
  go_wp2_with fail
  generalize ((w.alloc _).alloc _).alloc _=w3 at *
  refine cM HIs.o ?_
  rintro e w4 ⟨rfl,hk4⟩
  obtain⟨mv,a1,o1,a2,o2,a3,o3,hwc⟩:=HB.o
  have hm4:=mv.trans (Mv.zk hk4)
  have hb4:=zad a3 hk4
  obtain⟨c0,c1,z0,z1,cl⟩:=zaa hb4
  obtain⟨d0,d1,_⟩:=zaa (zae hb4 (.bool false) (.int .i64 0))
  have Q:Hid (zP X w g m act (.returned (.tuple #[.agg #[.bool false,.int .i64 0],.int .i64 4])) ((w4.setCell ⟨w.heap.size+1+1,0,none⟩ (.bool false)).setCell ⟨w.heap.size+1+1,1,none⟩ (.int .i64 0))):=by
   unfold Hid
   rw[<-HA.o,hc]
   exact zdl (fin2 (HJ.o.kp hk4) hm4 ⟨lL o3.1 hk4.size,o3.2⟩ (by omega) hwc _ _)
  clear mv a1 o1 a2 o2 a3 o3 hwc hm4 hb4 hk4 hc
  go_wp2_with fail
  exact bR (by simp[results,Tryz.results108,go_sem,d0,d1]) Q.o
 | true=>
  simp only[hc] at HIs
  go_enter Tryz.func108,Tryz.ntmps108
  go_wp2_with fail
  generalize ((w.alloc _).alloc _).alloc _=w3 at *
  refine cM HIs.o ?_
  rintro e w4 ⟨rfl,hk4⟩
  obtain⟨mv,a1,o1,a2,o2,a3,o3,hwc⟩:=HB.o
  have hJ4:=HJ.o.kp hk4
  have HF:Hid (∀ wx,Kp [] w4 wx->(wx.cell? ⟨X.mm,2,none⟩=some (.pointer (some ⟨X.hp,0,none⟩))/\X.mm < wx.heap.size)/\(wx.cell? ⟨w.heap.size,0,none⟩=some (.bool ap)/\wx.cell? ⟨w.heap.size,1,none⟩=some (.int .i64 an)/\w.heap.size < wx.heap.size)/\wx.cell? ⟨w.heap.size+1,0,none⟩=some (.bool vp)/\wx.cell? ⟨w.heap.size+1,1,none⟩=some (.int .i64 vn)/\w.heap.size+1 < wx.heap.size):=fun wx hx=>by
   have hb1:=hJ4.box.kp hx (by simp)
   have e1:=zaa (zad (zad a1 hk4) hx)
   have e2:=zaa (zad (zad a2 hk4) hx)
   exact⟨⟨hb1.heap.1,hb1.lt⟩,⟨e1.1,e1.2.1,e1.2.2.2.2⟩,e2.1,e2.2.1,e2.2.2.2.2⟩
  obtain⟨_,t,ht,hk3,htag⟩:=zcf hc
  have hlen:t.fs.length=1:=by
   rcases(Hd.o _ _ ht).ce hk3 with h1 | h1
   ·exact h1.2
   ·omega
  have hR:R an b.n:=by
   obtain⟨i1,_,i3⟩:=Hab.o.1
   exact i3 (i1.trans (zcf hc).1)
  have HSet:Hid (∀ wx,Kp [] w4 wx->Calls Tryz.prog 52 #[.pointer (some ⟨X.hp,0,none⟩),.int .i64 an,.int .i64 0,.agg #[.bool vp,.int .i64 vn]] wx fun e w'=>e=.returned (.tuple #[])/\∃ ts',J X w' {g with ts:=ts'} (m.setD b.n 0 v) R/\Mv X w4 g w' {g with ts:=ts'}):=fun wx hx=>by
   refine cM (zdp (hJ4.kp hx) hR 0 (by unfold lenA;rw[ht];simp only[Option.getD_some];omega) ⟨vp,vn⟩ v Hab.o.2.1 Hab.o.2.2) ?_
   rintro e w' ⟨rfl,ts2,hJ2,hm2⟩
   exact⟨rfl,ts2,hJ2,(Mv.zk hx).trans hm2⟩
  have HS:Hid (_/\_/\Off X w4 g (w.heap.size+1+1)/\_):=⟨mv.trans (Mv.zk hk4),zad a3 hk4,⟨lL o3.1 hk4.size,o3.2⟩,hwc⟩
  have Hc:=zh hc
  clear mv a1 o1 a2 o2 a3 o3 hwc hk4 hc hJ4 hR hlen ht hk3 htag c0 c1
  go_upto_region 3 with fail
  refine zan 7 (C:=fun wx=>Kp [] w4 wx) (by kernel_rfl) ?_
  refine qT 0 rfl ?_
  apply xI
  (intro wx hwx;go_simp <;> rfl)
  refine qT 1 rfl ?_
  apply xI
  (intro wx hwx;go_simp <;> rfl)
  refine qT 2 rfl ?_
  apply xI
  (intro wx hwx;go_simp <;> rfl)
  refine qT 3 rfl ?_
  apply xI
  (intro wx hwx;obtain⟨⟨f3,f4⟩,⟨f0,f1,f2⟩,g0,g1,g2⟩:=HF.o wx hwx;go_simp <;> rfl)
  refine qT 4 rfl ?_
  apply xI
  (intro wx hwx;go_simp <;> rfl)
  refine qT 5 rfl ?_
  apply xI
  (intro wx hwx;obtain⟨⟨f3,f4⟩,⟨f0,f1,f2⟩,g0,g1,g2⟩:=HF.o wx hwx;go_simp <;> rfl)
  refine qT 6 rfl ?_
  apply xI
  (intro wx hwx;obtain⟨⟨f3,f4⟩,⟨f0,f1,f2⟩,g0,g1,g2⟩:=HF.o wx hwx;go_simp <;> rfl)
  refine oL 7 (Kp.refl _ _).drew rfl (fun K hK=>?_)
  go_simp
  refine cM (HSet.o _ (Kp.refl _ _).drew) ?_
  rintro e10 w10 ⟨rfl,ts2,hJ2,hm2⟩
  refine hK _ _ ?_
  clear hK K
  refine zas (by kernel_rfl) (by kernel_rfl) ?_
  go_simp
  have HN:Hid _:=za0 w10 0
  have HJ2:Hid (_/\_):=⟨hJ2,hm2⟩
  clear hJ2 hm2
  go_wp2_with fail
  refine cM HN.o ?_
  rintro e w11 ⟨rfl,hk11⟩
  obtain⟨hJ2,hm2⟩:=HJ2.o
  obtain⟨mv,a3,o3,hwc⟩:=HS.o
  obtain⟨o3r,k3r⟩:=o3.mv hm2
  have hb4:=zad (k3r.trans a3) hk11
  obtain⟨c0,c1,z0,z1,cl⟩:=zaa hb4
  obtain⟨d0,d1,_⟩:=zaa (zae hb4 (.bool false) (.int .i64 0))
  have Q:Hid (zP X w g m act (.returned (.tuple #[.agg #[.bool false,.int .i64 0],.int .i64 0])) ((w11.setCell ⟨w.heap.size+1+1,0,none⟩ (.bool false)).setCell ⟨w.heap.size+1+1,1,none⟩ (.int .i64 0))):=by
   unfold Hid
   rw[<-HA.o,Hc.o]
   have h9:=fin2 (hJ2.kp hk11) (mv.trans (hm2.trans (Mv.zk hk11))) ⟨lL o3r.1 hk11.size,o3r.2⟩ (show w.heap.size<=w.heap.size+1+1 by omega) hwc (.bool false) (.int .i64 0)
   exact zP.val ⟨false,0⟩ (num 0) _ (valOf.set _ _ _) _ _ R h9.1 (zb5 _ _) zkh h9.2
  clear hJ2 hm2 mv a3 o3 hwc o3r k3r hb4 hk11
  go_wp2_with fail
  exact bR (by simp[results,Tryz.results108,go_sem,d0,d1]) Q.o
end
theorem zvc(s:ByteArray)(i k:Nat)(h1:i<=k)(h2:k<=s.size)(wx:World):(Instr.slice 9 (.string s) (some (.int .i64 (i:Int))) (some (.int .i64 (k:Int))) none).run Tryz.prog wx=.ok (.string (s.extract i k)) wx:=by
 have e1:(0:Int)<=(i:Int):=Int.natCast_nonneg _
 have e2:=Int.ofNat_le.2 h1
 have e3:=Int.ofNat_le.2 h2
 simp[go_sem,e1,e2,e3]
theorem zr4(s:ByteArray):s.size=s.data.toList.length:=by simp
theorem zly(s:ByteArray)(i n:Nat):(s.extract i (i+n)).data.toList=(s.data.toList.drop i).take n:=by
 rw[ByteArray.data_extract,Array.toList_extract]
 simp[List.extract]
section
variable{X:Fx}{w:World}{g:Pg}{m:AM}{R:Int->Int->Prop}
theorem zsu(h:J X w g m R)(hn:0 < m.s.cA.length)(hnx:m.next+1<=1000000000)(s:ByteArray)(hs:s.size<=200)(i:Int)(hi:-1000000000<=i/\i<=1000000000)(p v:Cl)(hpv:zI R p v)(hv:okC v):Calls Tryz.prog 123 #[.pointer (some ⟨X.mm,0,none⟩),.string s,.int .i64 i,.agg #[.bool p.p,.int .i64 p.n]] w fun e w'=>zP X w g m (if v.p then .wrong else if i < 0\/v.n < 0\/(s.data.toList.length:Int) < i+v.n then .raise (-5) else .make (zTT ((s.data.toList.drop i.toNat).take v.n.toNat))) e w':=by
 have hwc:=h.bl.size
 have hsl:s.data.toList.length=s.size:=by simp
 obtain⟨np,nn⟩:=p
 obtain⟨e1,e2,-⟩:=hpv
 simp only at e1 e2 ⊢
 rw[hsl,<-e1]
 obtain⟨j1,m1,a1,o1⟩:=zbe h (.cells #[.bool np,.int .i64 nn] 67)
 obtain⟨j2,m2,a2,o2⟩:=zbe j1 (.cells #[.bool false,.int .i64 0] 67)
 rw[size_alloc] at a2 o2
 have HB:Hid (_/\((w.alloc (.cells #[.bool np,.int .i64 nn] 67)).alloc (.cells #[.bool false,.int .i64 0] 67)).heap[w.heap.size]? = some (.cells #[.bool np,.int .i64 nn] 67)/\Off X ((w.alloc (.cells #[.bool np,.int .i64 nn] 67)).alloc (.cells #[.bool false,.int .i64 0] 67)) g (w.heap.size)/\_/\_/\_):=⟨m1.trans m2,zaj a1 _,o1.alloc _,a2,o2,hwc⟩
 have HJ:=zh j2
 obtain⟨f0,f1,_,_,f2⟩:=zaa (zaj a1 (.cells #[.bool false,.int .i64 0] 67))
 clear j1 m1 a1 o1 j2 m2 a2 o2 h hwc
 generalize hA:(if np=true then Act1.wrong else if i < 0\/v.n < 0\/(s.size:Int) < i+v.n then Act1.raise (-5) else Act1.make (zTT ((s.data.toList.drop i.toNat).take v.n.toNat)))=act
 have HA:=zh hA
 clear hA
 have He:Hid (_/\_):=⟨e1,e2⟩
 clear e1 e2
 go_enter Tryz.func123,Tryz.ntmps123
 go_upto_region 1 with fail
 generalize (w.alloc _).alloc _=w1 at *
 cases np with
 | true=>
  rw[if_pos rfl] at HA
  clear hsl hv hs hi
  obtain⟨mv,a1,o1,a2,o2,hwc⟩:=HB.o
  obtain⟨y0,y1,z0,z1,cl⟩:=zaa a2
  obtain⟨d0,d1,_⟩:=zaa (zae a2 (.bool false) (.int .i64 0))
  have Q:Hid (zP X w g m act (.returned (.tuple #[.agg #[.bool false,.int .i64 0],.int .i64 4])) ((w1.setCell ⟨w.heap.size+1,0,none⟩ (.bool false)).setCell ⟨w.heap.size+1,1,none⟩ (.int .i64 0))):=by
   unfold Hid
   rw[<-HA.o]
   exact zdl (fin2 HJ.o mv o2 (by omega) hwc _ _)
  clear mv a1 o1 a2 o2 hwc
  go_wp2_with fail
  exact bR (by simp[results,Tryz.results123,go_sem,d0,d1]) Q.o
 | false=>
  have hvn:=He.o.2 rfl
  have hvr:=hv He.o.1.symm
  rw[if_neg Bool.false_ne_true,<-hvn] at HA
  rw[<-hvn] at hvr
  have hw:IntKind.i64.wrap (i+nn)=i+nn:=by rw[IntKind.wrap_i64];omega
  clear hv hvn
  by_cases c1:i < 0
  ·rw[if_pos (Or.inl c1)] at HA
   obtain⟨mv,a1,o1,a2,o2,hwc⟩:=HB.o
   obtain⟨y0,y1,z0,z1,cl⟩:=zaa a2
   obtain⟨d0,d1,_⟩:=zaa (zae a2 (.bool false) (.int .i64 0))
   have Q:Hid (zP X w g m act (.returned (.tuple #[.agg #[.bool false,.int .i64 0],.int .i64 (-5)])) ((w1.setCell ⟨w.heap.size+1,0,none⟩ (.bool false)).setCell ⟨w.heap.size+1,1,none⟩ (.int .i64 0))):=by
    unfold Hid
    rw[<-HA.o]
    exact zck (-5) ⟨by decide,by decide⟩ (fin2 HJ.o mv o2 (by omega) hwc _ _)
   clear mv a1 o1 a2 o2 hwc
   go_wp2_with fail
   exact bR (by simp[results,Tryz.results123,go_sem,d0,d1]) Q.o
  ·by_cases c2:nn < 0
   ·rw[if_pos (Or.inr (Or.inl c2))] at HA
    obtain⟨mv,a1,o1,a2,o2,hwc⟩:=HB.o
    obtain⟨y0,y1,z0,z1,cl⟩:=zaa a2
    obtain⟨d0,d1,_⟩:=zaa (zae a2 (.bool false) (.int .i64 0))
    have Q:Hid (zP X w g m act (.returned (.tuple #[.agg #[.bool false,.int .i64 0],.int .i64 (-5)])) ((w1.setCell ⟨w.heap.size+1,0,none⟩ (.bool false)).setCell ⟨w.heap.size+1,1,none⟩ (.int .i64 0))):=by
     unfold Hid
     rw[<-HA.o]
     exact zck (-5) ⟨by decide,by decide⟩ (fin2 HJ.o mv o2 (by omega) hwc _ _)
    clear mv a1 o1 a2 o2 hwc
    go_wp2_with fail
    exact bR (by simp[results,Tryz.results123,go_sem,d0,d1]) Q.o
   ·by_cases c3:(s.size:Int) < i+nn
    ·rw[if_pos (Or.inr (Or.inr c3))] at HA
     obtain⟨mv,a1,o1,a2,o2,hwc⟩:=HB.o
     obtain⟨y0,y1,z0,z1,cl⟩:=zaa a2
     obtain⟨d0,d1,_⟩:=zaa (zae a2 (.bool false) (.int .i64 0))
     have Q:Hid (zP X w g m act (.returned (.tuple #[.agg #[.bool false,.int .i64 0],.int .i64 (-5)])) ((w1.setCell ⟨w.heap.size+1,0,none⟩ (.bool false)).setCell ⟨w.heap.size+1,1,none⟩ (.int .i64 0))):=by
      unfold Hid
      rw[<-HA.o]
      exact zck (-5) ⟨by decide,by decide⟩ (fin2 HJ.o mv o2 (by omega) hwc _ _)
     clear mv a1 o1 a2 o2 hwc
     go_wp2_with fail
     exact bR (by simp[results,Tryz.results123,go_sem,d0,d1]) Q.o
    ·rw[if_neg (by omega)] at HA
     obtain⟨I,rfl⟩:∃ I:Nat,i=(I:Int):=⟨i.toNat,by omega⟩
     obtain⟨N,rfl⟩:∃ N:Nat,nn=(N:Int):=⟨nn.toNat,by omega⟩
     have hIN:I+N<=s.size:=by omega
     have hsub:∀ wx:World,(Instr.slice 9 (.string s) (some (.int .i64 (I:Int))) (some (.int .i64 ((I:Int)+(N:Int)))) none).run Tryz.prog wx=.ok (.string (s.extract I (I+N))) wx:=zvc s I (I+N) (by omega) hIN
     simp only[Int.toNat_natCast] at HA
     have hsz:(s.extract I (I+N)).size<=200:=by
      rw[zr4,zly s I N,List.length_take,List.length_drop,hsl]
      omega
     have HT:Hid _:=ze0 HJ.o hn hnx (s.extract I (I+N)) hsz
     have Htk:Hid _:=zly s I N
     clear hsz hIN hsl hi hvr
     go_wp2_with fail
     refine cM HT.o ?_
     intro e w9 q
     obtain⟨mv,a1,o1,a2,o2,hwc⟩:=HB.o
     obtain⟨pp,pn,pf,rfl,hb9,hQ⟩:=q.lift (w:=w) (g:=g) (b:=w.heap.size+1) mv a2 o2 (by omega) hwc
     obtain⟨y0,y1,z0,z1,cl⟩:=zaa hb9
     obtain⟨d0,d1,_⟩:=zaa (zae hb9 (.bool pp) (.int .i64 pn))
     rw[Htk.o,HA.o] at hQ
     have Q:=zh hQ
     clear mv a1 o1 a2 o2 hwc hb9 hQ q hsub hw
     go_wp2_with fail
     exact bR (by simp[results,Tryz.results123,go_sem,d0,d1]) Q.o
theorem zn2(h:J X w g m R)(hd:okD X.cd m.D)(hn:0 < m.s.cA.length)(hnx:m.next+1<=1000000000)(a b p v:Cl)(hab:zI R a b)(hpv:zI R p v):Calls Tryz.prog 107 #[.pointer (some ⟨X.mm,0,none⟩),.agg #[.bool a.p,.int .i64 a.n],.agg #[.bool p.p,.int .i64 p.n]] w fun e w'=>zP X w g m (joinA m.D b v) e w':=by
 have hwc:=h.bl.size
 obtain⟨ap,an⟩:=a
 obtain⟨vp,vn⟩:=p
 simp only
 obtain⟨j1,m1,a1,o1⟩:=zbe h (.cells #[.bool ap,.int .i64 an] 67)
 obtain⟨j2,m2,a2,o2⟩:=zbe j1 (.cells #[.bool vp,.int .i64 vn] 67)
 obtain⟨j3,m3,a3,o3⟩:=zbe j2 (.cells #[.bool false,.int .i64 0] 67)
 rw[size_alloc] at a2 o2
 rw[size_alloc,size_alloc] at a3 o3
 have HB:Hid (_/\(((w.alloc (.cells #[.bool ap,.int .i64 an] 67)).alloc (.cells #[.bool vp,.int .i64 vn] 67)).alloc (.cells #[.bool false,.int .i64 0] 67)).heap[w.heap.size]? = some (.cells #[.bool ap,.int .i64 an] 67)/\Off X (((w.alloc (.cells #[.bool ap,.int .i64 an] 67)).alloc (.cells #[.bool vp,.int .i64 vn] 67)).alloc (.cells #[.bool false,.int .i64 0] 67)) g (w.heap.size)/\(((w.alloc (.cells #[.bool ap,.int .i64 an] 67)).alloc (.cells #[.bool vp,.int .i64 vn] 67)).alloc (.cells #[.bool false,.int .i64 0] 67)).heap[w.heap.size+1]? = some (.cells #[.bool vp,.int .i64 vn] 67)/\Off X (((w.alloc (.cells #[.bool ap,.int .i64 an] 67)).alloc (.cells #[.bool vp,.int .i64 vn] 67)).alloc (.cells #[.bool false,.int .i64 0] 67)) g (w.heap.size+1)/\_/\_/\_):=⟨m1.trans (m2.trans m3),zaj (zaj a1 _) _,(o1.alloc _).alloc _,zaj a2 _,o2.alloc _,a3,o3,hwc⟩
 have HJ:=zh j3
 have HI1:Hid (∀ wx,Kp [] (((w.alloc (.cells #[.bool ap,.int .i64 an] 67)).alloc (.cells #[.bool vp,.int .i64 vn] 67)).alloc (.cells #[.bool false,.int .i64 0] 67)) wx->_):=zbl j3 ⟨ap,an⟩ b hab 2
 have HI2:Hid (∀ wx,Kp [] (((w.alloc (.cells #[.bool ap,.int .i64 an] 67)).alloc (.cells #[.bool vp,.int .i64 vn] 67)).alloc (.cells #[.bool false,.int .i64 0] 67)) wx->_):=zbl j3 ⟨vp,vn⟩ v hpv 2
 have HP:Hid (∀ wx,Kp [] (((w.alloc (.cells #[.bool ap,.int .i64 an] 67)).alloc (.cells #[.bool vp,.int .i64 vn] 67)).alloc (.cells #[.bool false,.int .i64 0] 67)) wx->thK m.D b 2=true->thK m.D v 2=true->(Calls Tryz.prog 78 #[.pointer (some ⟨X.hp,0,none⟩),.int .i64 an] wx fun e w'=>e=.returned (.int .i64 (tagA m.D b.n))/\Kp [] (((w.alloc (.cells #[.bool ap,.int .i64 an] 67)).alloc (.cells #[.bool vp,.int .i64 vn] 67)).alloc (.cells #[.bool false,.int .i64 0] 67)) w')/\(Calls Tryz.prog 78 #[.pointer (some ⟨X.hp,0,none⟩),.int .i64 vn] wx fun e w'=>e=.returned (.int .i64 (tagA m.D v.n))/\Kp [] (((w.alloc (.cells #[.bool ap,.int .i64 an] 67)).alloc (.cells #[.bool vp,.int .i64 vn] 67)).alloc (.cells #[.bool false,.int .i64 0] 67)) w')/\(Calls Tryz.prog 113 #[.pointer (some ⟨X.mm,0,none⟩),.agg #[.bool ap,.int .i64 an]] wx fun e w'=>e=.returned (.string ⟨(bytesA m.D b.n).toArray⟩)/\Kp [] (((w.alloc (.cells #[.bool ap,.int .i64 an] 67)).alloc (.cells #[.bool vp,.int .i64 vn] 67)).alloc (.cells #[.bool false,.int .i64 0] 67)) w')/\(Calls Tryz.prog 113 #[.pointer (some ⟨X.mm,0,none⟩),.agg #[.bool vp,.int .i64 vn]] wx fun e w'=>e=.returned (.string ⟨(bytesA m.D v.n).toArray⟩)/\Kp [] (((w.alloc (.cells #[.bool ap,.int .i64 an] 67)).alloc (.cells #[.bool vp,.int .i64 vn] 67)).alloc (.cells #[.bool false,.int .i64 0] 67)) w')):=fun wx hx k1 k2=>by
  refine⟨?_,?_,zc4 j3 hd ⟨ap,an⟩ b hab k1 wx hx,zc4 j3 hd ⟨vp,vn⟩ v hpv k2 wx hx⟩
  ·obtain⟨_,_,th,u,ht,hu,hth,_⟩:=zdo j3 hab k1
   have:=(j3.pget wx hx _ th ht).2.1
   rw[hth.tag,show u.tag=tagA m.D b.n by unfold tagA;rw[hu];rfl] at this
   exact this
  ·obtain⟨_,_,th,u,ht,hu,hth,_⟩:=zdo j3 hpv k2
   have:=(j3.pget wx hx _ th ht).2.1
   rw[hth.tag,show u.tag=tagA m.D v.n by unfold tagA;rw[hu];rfl] at this
   exact this
 have Hsz:Hid (∀ x:Cl,thK m.D x 2=true->((bytesA m.D x.n).length:Int)=tagA m.D x.n/\0<=tagA m.D x.n/\tagA m.D x.n<=200):=fun x k=>by
  obtain⟨_,t,ht,hk⟩:=zat k
  exact zbr hd ht hk
 have HF:Hid (∀ wx,Kp [] (((w.alloc (.cells #[.bool ap,.int .i64 an] 67)).alloc (.cells #[.bool vp,.int .i64 vn] 67)).alloc (.cells #[.bool false,.int .i64 0] 67)) wx->(wx.cell? ⟨X.mm,2,none⟩=some (.pointer (some ⟨X.hp,0,none⟩))/\X.mm < wx.heap.size)/\(wx.cell? ⟨w.heap.size,0,none⟩=some (.bool ap)/\wx.cell? ⟨w.heap.size,1,none⟩=some (.int .i64 an)/\w.heap.size < wx.heap.size)/\wx.cell? ⟨w.heap.size+1,0,none⟩=some (.bool vp)/\wx.cell? ⟨w.heap.size+1,1,none⟩=some (.int .i64 vn)/\w.heap.size+1 < wx.heap.size):=fun wx hx=>by
  have hb1:=j3.box.kp hx (by simp)
  have e1:=zaa (zad (zaj (zaj a1 (.cells #[.bool vp,.int .i64 vn] 67)) (.cells #[.bool false,.int .i64 0] 67)) hx)
  have e2:=zaa (zad (zaj a2 (.cells #[.bool false,.int .i64 0] 67)) hx)
  exact⟨⟨hb1.heap.1,hb1.lt⟩,⟨e1.1,e1.2.1,e1.2.2.2.2⟩,e2.1,e2.2.1,e2.2.2.2.2⟩
 have Hn:Hid (_/\_):=⟨hn,hnx⟩
 clear j1 m1 a1 o1 j2 m2 a2 o2 j3 m3 a3 o3 h hab hpv hd hwc hn hnx
 generalize hA:joinA m.D b v=act
 have HA:=zh hA
 clear hA
 unfold joinA at HA
 obtain⟨⟨f3,f4⟩,⟨f0,f1,f2⟩,e0,e1,e2⟩:=HF.o (((w.alloc (.cells #[.bool ap,.int .i64 an] 67)).alloc (.cells #[.bool vp,.int .i64 vn] 67)).alloc (.cells #[.bool false,.int .i64 0] 67)) kr
 go_enter Tryz.func107,Tryz.ntmps107
 cases k1:thK m.D b 2 with
 | false=>
  rw[k1,Bool.false_and,if_neg Bool.false_ne_true] at HA
  rw[k1] at HI1
  go_wp2_with fail
  generalize ((w.alloc _).alloc _).alloc _=w3 at *
  refine cM (HI1.o _ kr) ?_
  rintro e w4 ⟨rfl,hk4⟩
  clear f0 f1 f2 f3 f4 e0 e1 e2
  obtain⟨mv,a1,o1,a2,o2,a3,o3,hwc⟩:=HB.o
  have hb4:=zad a3 hk4
  obtain⟨c0,c1,z0,z1,cl⟩:=zaa hb4
  obtain⟨d0,d1,_⟩:=zaa (zae hb4 (.bool false) (.int .i64 0))
  have Q:Hid (zP X w g m act (.returned (.tuple #[.agg #[.bool false,.int .i64 0],.int .i64 4])) ((w4.setCell ⟨w.heap.size+1+1,0,none⟩ (.bool false)).setCell ⟨w.heap.size+1+1,1,none⟩ (.int .i64 0))):=by
   unfold Hid
   rw[<-HA.o]
   exact zdl (fin2 (HJ.o.kp hk4) (mv.trans (Mv.zk hk4)) ⟨lL o3.1 (hk4).size,o3.2⟩ (by omega) hwc _ _)
  clear mv a1 o1 a2 o2 a3 o3 hwc hb4
  go_wp2_with fail
  exact bR (by simp[results,Tryz.results107,go_sem,d0,d1]) Q.o
 | true=>
  rw[k1] at HI1
  cases k2:thK m.D v 2 with
  | false=>
   rw[k1,k2,Bool.and_false,if_neg Bool.false_ne_true] at HA
   rw[k2] at HI2
   go_wp2_with fail
   generalize ((w.alloc _).alloc _).alloc _=w3 at *
   refine cM (HI1.o _ kr) ?_
   rintro e w4 ⟨rfl,hk4⟩
   clear f0 f1 f2 f3 f4 e0 e1 e2
   obtain⟨⟨f3,f4⟩,⟨f0,f1,f2⟩,e0,e1,e2⟩:=HF.o w4 hk4
   go_wp2_with fail
   refine cM (HI2.o _ hk4) ?_
   rintro e w5 ⟨rfl,hk5⟩
   clear f0 f1 f2 f3 f4 e0 e1 e2 hk4
   obtain⟨mv,a1,o1,a2,o2,a3,o3,hwc⟩:=HB.o
   have hb4:=zad a3 hk5
   obtain⟨c0,c1,z0,z1,cl⟩:=zaa hb4
   obtain⟨d0,d1,_⟩:=zaa (zae hb4 (.bool false) (.int .i64 0))
   have Q:Hid (zP X w g m act (.returned (.tuple #[.agg #[.bool false,.int .i64 0],.int .i64 4])) ((w5.setCell ⟨w.heap.size+1+1,0,none⟩ (.bool false)).setCell ⟨w.heap.size+1+1,1,none⟩ (.int .i64 0))):=by
    unfold Hid
    rw[<-HA.o]
    exact zdl (fin2 (HJ.o.kp hk5) (mv.trans (Mv.zk hk5)) ⟨lL o3.1 (hk5).size,o3.2⟩ (by omega) hwc _ _)
   clear mv a1 o1 a2 o2 a3 o3 hwc hb4
   go_wp2_with fail
   exact bR (by simp[results,Tryz.results107,go_sem,d0,d1]) Q.o
  | true=>
   rw[k1,k2,Bool.true_and,if_pos rfl] at HA
   rw[k2] at HI2
   go_wp2_with fail
   generalize ((w.alloc _).alloc _).alloc _=w3 at *
   refine cM (HI1.o _ kr) ?_
   rintro e w4 ⟨rfl,hk4⟩
   clear f0 f1 f2 f3 f4 e0 e1 e2
   obtain⟨⟨f3,f4⟩,⟨f0,f1,f2⟩,e0,e1,e2⟩:=HF.o w4 hk4
   go_wp2_with fail
   refine cM (HI2.o _ hk4) ?_
   rintro e w5 ⟨rfl,hk5⟩
   clear f0 f1 f2 f3 f4 e0 e1 e2 hk4
   have HK0:=zh hk5.drew
   have HT1:Hid (∀ wx,Kp [] w3 wx->_):=fun wx hx=>(HP.o wx hx k1 k2).1
   have HT2:Hid (∀ wx,Kp [] w3 wx->_):=fun wx hx=>(HP.o wx hx k1 k2).2.1
   have HY1:Hid (∀ wx,Kp [] w3 wx->_):=fun wx hx=>(HP.o wx hx k1 k2).2.2.1
   have HY2:Hid (∀ wx,Kp [] w3 wx->_):=fun wx hx=>(HP.o wx hx k1 k2).2.2.2
   obtain⟨s1,s2,s3⟩:=Hsz.o b k1
   obtain⟨s4,s5,s6⟩:=Hsz.o v k2
   have hwr:IntKind.i64.wrap (tagA m.D b.n+tagA m.D v.n)=tagA m.D b.n+tagA m.D v.n:=by rw[IntKind.wrap_i64];omega
   have Hss:Hid ((bytesA m.D b.n).length<=200/\(bytesA m.D v.n).length<=200/\(bytesA m.D b.n).length+(bytesA m.D v.n).length=(tagA m.D b.n+tagA m.D v.n).toNat/\0<=tagA m.D b.n+tagA m.D v.n):=⟨by omega,by omega,by omega,by omega⟩
   clear s1 s2 s3 s4 s5 s6 k1 k2 hk5
   generalize tagA m.D b.n=tb at *
   generalize tagA m.D v.n=tv at *
   go_upto_region 3 with fail
   refine rQ HK0.o (fun ops Hops=>?_)
   repeat
    (refine wQ ?_;apply xI;(·intro wx hwx;obtain⟨⟨f3,f4⟩,⟨f0,f1,f2⟩,e0,e1,e2⟩:=HF.o wx hwx;go_simp <;> first | with_reducible rfl | with_reducible exact⟨rfl,rfl⟩ | with_reducible exact HT1.o _ hwx | with_reducible exact HT2.o _ hwx | exact HT1.o _ hwx | exact HT2.o _ hwx);try go_simp)
   refine wpQuiet_nil ?_
   clear Hops ops
   intro w6 hw6
   have Hw6:=zh hw6
   clear hw6 hwr
   by_cases h200:(200:Int) < tb+tv
   ·rw[if_pos h200] at HA
    obtain⟨mv,a1,o1,a2,o2,a3,o3,hwc⟩:=HB.o
    have hb4:=zad a3 Hw6.o
    obtain⟨c0,c1,z0,z1,cl⟩:=zaa hb4
    obtain⟨d0,d1,_⟩:=zaa (zae hb4 (.bool false) (.int .i64 0))
    have Q:Hid (zP X w g m act (.returned (.tuple #[.agg #[.bool false,.int .i64 0],.int .i64 (-6)])) ((w6.setCell ⟨w.heap.size+1+1,0,none⟩ (.bool false)).setCell ⟨w.heap.size+1+1,1,none⟩ (.int .i64 0))):=by
     unfold Hid
     rw[<-HA.o]
     exact zck (-6) ⟨by decide,by decide⟩ (fin2 (HJ.o.kp Hw6.o) (mv.trans (Mv.zk Hw6.o)) ⟨lL o3.1 Hw6.o.size,o3.2⟩ (by omega) hwc _ _)
    clear mv a1 o1 a2 o2 a3 o3 hwc hb4
    go_wp2_with fail
    exact bR (by simp[results,Tryz.results107,go_sem,d0,d1]) Q.o
   ·rw[if_neg h200] at HA
    obtain⟨⟨f3,f4⟩,⟨f0,f1,f2⟩,e0,e1,e2⟩:=HF.o w6 Hw6.o
    generalize hl1:bytesA m.D b.n=l1 at *
    generalize hl2:bytesA m.D v.n=l2 at *
    obtain⟨S1,hS1⟩:∃ S:ByteArray,S=⟨l1.toArray⟩:=⟨_,rfl⟩
    obtain⟨S2,hS2⟩:∃ S:ByteArray,S=⟨l2.toArray⟩:=⟨_,rfl⟩
    rw[<-hS1] at HY1
    rw[<-hS2] at HY2
    have hz1:S1.size<=200:=by rw[hS1];have:=Hss.o.1;simpa [ByteArray.size] using this
    have hz2:S2.size<=200:=by rw[hS2];have:=Hss.o.2.1;simpa [ByteArray.size] using this
    have Hcat:Hid ((S1++S2).data.toList=l1++l2/\(S1++S2).size<=200):=by
     have e1:(S1++S2).data.toList=l1++l2:=by rw[hS1,hS2];simp[ByteArray.data_append]
     refine⟨e1,?_⟩
     have:(S1++S2).size=(l1++l2).length:=by rw[<-e1];simp
     rw[this,lA]
     have:=Hss.o
     omega
    clear hS1 hS2 hl1 hl2 f0 f1 f2 f3 f4 e0 e1 e2
    have HC:Hid (∀ wx,Kp [] w3 wx->wx.heap[w.heap.size]? = some (.cells #[.bool ap,.int .i64 an] 67)/\wx.heap[w.heap.size+1]? = some (.cells #[.bool vp,.int .i64 vn] 67)):=fun wx hx=>⟨zad HB.o.2.1 hx,zad HB.o.2.2.2.1 hx⟩
    go_upto_region 5 with fail
    refine zao (C:=fun wx=>wx.heap[w.heap.size]? = some (.cells #[.bool ap,.int .i64 an] 67)/\wx.heap[w.heap.size+1]? = some (.cells #[.bool vp,.int .i64 vn] 67)) (by kernel_rfl) ?_
    refine qA 0 rfl ?_
    apply xI
    (intro wx hwx;go_simp <;> rfl)
    refine qA 1 rfl ?_
    apply xI
    (intro wx hwx;go_simp <;> rfl)
    refine qA 2 rfl ?_
    apply xI
    (intro wx hwx;obtain⟨x1,x2⟩:=hwx;obtain⟨f0,f1,f2,f3,f4⟩:=zaa x1;obtain⟨e0,e1,e2,e3,e4⟩:=zaa x2;go_simp <;> rfl)
    refine qA 4 rfl ?_
    apply xI
    (intro wx hwx;go_simp <;> rfl)
    refine qA 5 rfl ?_
    apply xI
    (intro wx hwx;obtain⟨x1,x2⟩:=hwx;obtain⟨f0,f1,f2,f3,f4⟩:=zaa x1;obtain⟨e0,e1,e2,e3,e4⟩:=zaa x2;go_simp <;> rfl)
    refine oA 3 (HC.o _ Hw6.o.drew) rfl (fun K hK=>?_)
    go_simp
    refine cM (HY1.o _ Hw6.o.drew) ?_
    rintro e7 w7 ⟨rfl,hw7⟩
    refine hK _ _ ?_
    clear hK K
    refine oA 6 (HC.o _ hw7) rfl (fun K hK=>?_)
    go_simp
    refine cM (HY2.o _ hw7) ?_
    rintro e8 w8 ⟨rfl,hw8⟩
    refine hK _ _ ?_
    clear hK K
    refine oA 7 (HC.o _ hw8) rfl (fun K hK=>?_)
    go_simp
    rw[if_neg (by omega)]
    go_simp
    refine hK _ _ ?_
    clear hK K
    have HTx:Hid _:=ze0 (HJ.o.kp hw8) Hn.o.1 Hn.o.2 (S1++S2) Hcat.o.2
    refine oA 8 (HC.o _ hw8) rfl (fun K hK=>?_)
    go_simp
    refine cM HTx.o ?_
    intro e9 w9 q
    obtain⟨mv,a1,o1,a2,o2,a3,o3,hwc⟩:=HB.o
    obtain⟨pp,pn,pf,rfl,hb9,hQ⟩:=q.lift (w:=w) (g:=g) (b:=w.heap.size+1+1) (mv.trans (Mv.zk hw8)) (zad a3 hw8) ⟨lL o3.1 hw8.size,o3.2⟩ (by omega) hwc
    have hC9:w9.heap[w.heap.size]? = some (.cells #[.bool ap,.int .i64 an] 67)/\w9.heap[w.heap.size+1]? = some (.cells #[.bool vp,.int .i64 vn] 67):=by
     obtain⟨g9,hm9⟩:=q.mv
     have o1':Off X w8 g (w.heap.size):=⟨lL o1.1 hw8.size,o1.2⟩
     have o2':Off X w8 g (w.heap.size+1):=⟨lL o2.1 hw8.size,o2.2⟩
     exact⟨(o1'.mv hm9).2.trans (HC.o _ hw8).1,(o2'.mv hm9).2.trans (HC.o _ hw8).2⟩
    refine hK _ _ ?_
    clear hK K
    obtain⟨c0,c1,z0,z1,cl⟩:=zaa hb9
    obtain⟨d0,d1,_⟩:=zaa (zae hb9 (.bool pp) (.int .i64 pn))
    rw[Hcat.o.1,HA.o] at hQ
    have Q:=zh hQ
    have HC9:Hid (((w9.setCell ⟨w.heap.size+1+1,0,none⟩ (.bool pp)).setCell ⟨w.heap.size+1+1,1,none⟩ (.int .i64 pn)).heap[w.heap.size]? = some (.cells #[.bool ap,.int .i64 an] 67)/\((w9.setCell ⟨w.heap.size+1+1,0,none⟩ (.bool pp)).setCell ⟨w.heap.size+1+1,1,none⟩ (.int .i64 pn)).heap[w.heap.size+1]? = some (.cells #[.bool vp,.int .i64 vn] 67)):=⟨(zb7 (by omega)).trans hC9.1,(zb7 (by omega)).trans hC9.2⟩
    have hD9:=zh hC9
    clear mv a1 o1 a2 o2 a3 o3 hwc hb9 hQ q hz1 hz2 hw7 hw8 hC9
    refine qA 9 rfl ?_
    apply xI
    (intro wx hwx;go_simp <;> rfl)
    refine qA 10 rfl ?_
    apply xI
    (intro wx hwx;go_simp <;> rfl)
    refine oA 11 hD9.out rfl (fun K hK=>?_)
    go_simp
    refine hK _ _ ?_
    clear hK K
    refine oA 12 HC9.o rfl (fun K hK=>?_)
    go_simp
    refine hK _ _ ?_
    clear hK K
    refine zag HC9.o (by kernel_rfl) ?_
    go_simp
    clear hD9
    go_wp2_with fail
    exact bR (by simp[results,Tryz.results107,go_sem,d0,d1]) Q.o
end
end Go.Proofs.YtkcmachfagcnaaaGreatDoor
