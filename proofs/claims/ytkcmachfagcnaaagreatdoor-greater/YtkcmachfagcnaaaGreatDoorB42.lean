/- Part of Greater. -/
import Derived.Test.YtkcmachfagcnaaaGreatDoorB41
set_option maxHeartbeats 8000000
set_option maxRecDepth 100000
namespace Go.Proofs.YtkcmachfagcnaaaGreatDoor
open Go.RowKit Go.Deep Go.IntWalk
open C12 (zX zF Cd Fn In zT)
section
variable{X:Fx}{w:World}{g:Pg}{m:AM}{R:Int->Int->Prop}
theorem J.appT(h:J X w g m R){w4:World}{v':Value}(t:Tr)(ho:w4.ownsRow X.base 137 2 v' (g.s.tA.length+1) (zf0 g.s.tA++trV t))(hk:Kp g.vt.ownBlock.toList w w4)(hv:sameB w g.vt v')(hn:m.s.tA.length+1<=1000000000)(k:Nat):J X ((w4.setCell ⟨X.mm,33,none⟩ v').drewN k) (g.setT v' (g.s.tA++[t])) (m.setT (g.s.tA++[t])) R/\Mv X w g ((w4.setCell ⟨X.mm,33,none⟩ v').drewN k) (g.setT v' (g.s.tA++[t])):=by
 have hmb:=h.box
 unfold MBx at hmb
 have hbx:=h.box.kp hk (h.tt.ne hmb (by decide))
 have hk5:Kp [X.mm] w4 (w4.setCell ⟨X.mm,33,none⟩ v'):=Kp.setCell _ _ (by simp) _
 have hkk:Kp (X.mm :: g.vt.ownBlock.toList) w (w4.setCell ⟨X.mm,33,none⟩ v'):=(hk.mono (fun x hx=>List.mem_cons_of_mem _ hx)).then hk5 (by simp)
 have ho5:OwnT w4 X.base v' (g.s.tA++[t]):=by
  unfold OwnT
  rw[show zf0 (g.s.tA++[t])=zf0 g.s.tA++trV t from by simp[zf0],lA]
  exact ho
 have htr:=h.st.tr
 have h2:=h.tA (w':=w4.setCell ⟨X.mm,33,none⟩ v') (v:=v') (l:=g.s.tA++[t]) (hbx.setT v') (by
   refine zaf (X:=[X.mm]) ho5 hk5 (fun k e=>?_)
   simp only[List.mem_singleton]
   rintro rfl
   rcases hv.or e with e | e
   ·exact h.tt.ne hmb (by decide) (by simpa using e)
   ·have:=h.box.lt
    omega) hkk hv (by rw[htr];simp;omega)
 exact⟨h2.1.kp (kr.drewN k),h2.2.trans (Mv.zk (kr.drewN k))⟩
theorem zwl(h:J X w g m R)(E:Env X)(hk0:m.kind=0)(hn:0 < m.s.cA.length)(hvb:m.s.cur.vb<=m.s.vA.length)(i:Nat)(b:Int)(hi:m.s.cur.sb+i+1<=1000000000):Calls Tryz.prog 27 #[.pointer (some ⟨X.mm,0,none⟩),.agg #[.int .i64 6,.int .i64 (i:Int),.int .i64 b]] w fun e w'=>zD X w g (AM.doT (room X.cells) X.cd m ⟨6,(i:Int),b⟩ 1) e w':=by
 have htp:zT X.cd.funs ⟨6,(i:Int),b⟩=((1:Nat):Int):=by simp[zT]
 obtain⟨w1,hw1,HB,HJ,HTk,HHs,HF,HK0,HX⟩:=preDW h E hk0 hn hvb 6 (i:Int) b htp
 have HE:=zh E
 generalize hM:AM.doT (room X.cells) X.cd m ⟨6,(i:Int),b⟩ 1=M
 have HM:=zh hM
 have Htp:=zh htp
 have HY:=zh hi
 clear hi
 clear hM h E hk0 hn hvb htp
 go_enter Tryz.func27,Tryz.ntmps27
 go_upto_region 1 with fail
 rw[<-hw1.out]
 refine rQ HK0.o (fun ops Hops=>?_)
 repeat
  (refine wQ ?_;apply xI;(·intro wx hwx;obtain⟨x0,x1,x2,x3,x4,x5,x6⟩:=HF.o wx hwx;go_simp <;> first | with_reducible rfl | with_reducible exact⟨rfl,rfl⟩ | exact HTk.o _ hwx);try go_simp)
 refine wpQuiet_nil ?_
 clear Hops ops
 intro w2 hw2
 have H2:Hid _:=HHs.o w2 hw2
 clear hw2
 go_wp2_with fail
 refine cM H2.o ?_
 rintro e w3 ⟨rfl,hw3⟩
 by_cases hlt:m.s.has < 1
 ·have hltI:((m.s.has:Nat):Int) < ((1:Nat):Int):=by omega
  have Q:Hid (zD X w g M (.returned (.int .i64 4)) w3):=by
   unfold Hid
   rw[<-HM.o]
   unfold AM.doT
   rw[Htp.o,if_pos hltI]
   exact zD.of 4 rfl (g':=g) (R':=R) ((HJ.o.kp hw3).k0c HX.o.1) (HB.o.1.trans (Mv.zk hw3))
  clear hw3 hlt
  go_wp2_with fail
  exact bR (by simp[results,Tryz.results27,go_sem]) Q.o
 have hltI:¬ (((m.s.has:Nat):Int) < ((1:Nat):Int)):=by omega
 have HM2:Hid (({m with s:=(m.s.store i (m.s.top 0)).drop 1,kind:=0} : AM)=M):=by
  unfold Hid
  rw[<-HM.o]
  unfold AM.doT
  rw[Htp.o,if_neg hltI]
  simp only[Int.toNat_natCast]
  rw[if_pos True.intro]
 have hle:1<=m.s.vA.length:=by
  unfold St.has at hlt
  omega
 have Hle:=zh hle
 have hk3:=hw3
 obtain⟨x0,x1,x2,x3,x4,x5,x6⟩:=HF.o w3 hw3
 have HJ3:Hid (_/\_/\_):=⟨HJ.o.kp hw3,HB.o.1.trans (Mv.zk hw3),hw3⟩
 clear hw3 hlt hle
 have hl0:0 < m.s.vA.length:=Hle.o
 have HT0:Hid (∀ wx,Kp [] w3 wx->Calls Tryz.prog 49 #[.pointer (some ⟨X.mm,0,none⟩),.int .i64 0] wx fun e w'=>e=.returned (.agg #[.bool (g.s.top 0).p,.int .i64 (g.s.top 0).n])/\Kp [] w3 w'):=zbc HJ3.o.1 0 (by rw[HX.o.2.2.2.1];exact hl0)
 have HI:Hid (_/\_):=⟨HJ3.o.1.top 0 hl0,HJ3.o.1.topwf 0 hl0⟩
 clear hl0
 have HF3:Hid (∀ wx,Kp [] w3 wx->_):=fun wx hx=>HF.o wx (hk3.trans hx)
 have HS:=zh (fun wx (hx:Kp [] w3 wx)=>zo5 (HJ3.o.1.kp hx) HX.o.2.1 i HY.o (g.s.top 0) (m.s.top 0) HI.o.1 HI.o.2)
 generalize g.s.top 0=c0 at *
 obtain⟨ap,an⟩:=c0
 simp only at HT0 HS
 clear hk3
 go_upto_region 12 with fail
 clear x0 x1 x2 x3 x4 x5 x6
 refine zan 5 (C:=fun wx=>Kp [] w3 wx) (by kernel_rfl) ?_
 refine qT 0 rfl ?_
 apply xI
 (intro wx hwx;go_simp <;> rfl)
 refine qT 1 rfl ?_
 apply xI
 (intro wx hwx;go_simp <;> rfl)
 refine qT 2 rfl ?_
 apply xI
 (intro wx hwx;obtain⟨x0,x1,x2,x3,x4,x5,x6⟩:=HF3.o wx hwx;go_simp <;> rfl)
 refine qT 3 rfl ?_
 apply xI
 (intro wx hwx;go_simp <;> rfl)
 refine oL 4 (Kp.refl [] w3).drew rfl (fun K hK=>?_)
 go_simp
 refine cM (HT0.o _ (Kp.refl [] w3).drew) ?_
 rintro e4 w4 ⟨rfl,hw4⟩
 refine hK _ _ ?_
 clear hK K
 refine oL 5 hw4 rfl (fun K hK=>?_)
 go_simp
 refine cM (HS.o w4 hw4) ?_
 rintro e5 w5 ⟨rfl,g5,hJ5,hm5⟩
 have HJS:=zh hJ5
 have HMv:Hid (_/\_):=⟨(HJ3.o.2.1.trans (Mv.zk hw4)).trans hm5,HX.o.1⟩
 have Hlen:=zh Hle.o
 refine hK _ _ ?_
 clear hK K hJ5 hm5 hw4
 refine zas (by kernel_rfl) (by kernel_rfl) ?_
 go_simp
 have HD:Hid _:=zba HJS.o 1 Hlen.o
 go_wp2_with fail
 refine cM HD.o ?_
 rintro e w10 ⟨rfl,g10,hp10⟩
 have Q:Hid (zD X w g M (.returned (.int .i64 0)) w10):=by
  unfold Hid
  rw[<-HM2.o]
  exact zD.of 0 rfl (g':=g10) (R':=R) (hp10.j.k0c HMv.o.2) (HMv.o.1.trans hp10.mv)
 clear hp10
 go_wp2_with fail
 exact bR (by simp[results,Tryz.results27,go_sem]) Q.o
theorem zuc(h:J X w g m R)(E:Env X)(hk0:m.kind=0)(hn:0 < m.s.cA.length)(hvb:m.s.cur.vb<=m.s.vA.length)(i:Nat)(b:Int):Calls Tryz.prog 27 #[.pointer (some ⟨X.mm,0,none⟩),.agg #[.int .i64 18,.int .i64 (i:Int),.int .i64 b]] w fun e w'=>zD X w g (AM.doT (room X.cells) X.cd m ⟨18,(i:Int),b⟩ 0) e w':=by
 have htp:zT X.cd.funs ⟨18,(i:Int),b⟩=((0:Nat):Int):=by simp[zT]
 obtain⟨w1,hw1,HB,HJ,HTk,HHs,HF,HK0,HX⟩:=preDW h E hk0 hn hvb 18 (i:Int) b htp
 have HE:=zh E
 generalize hM:AM.doT (room X.cells) X.cd m ⟨18,(i:Int),b⟩ 0=M
 have HM:=zh hM
 have Htp:=zh htp
 clear hM h E hk0 hn hvb htp
 go_enter Tryz.func27,Tryz.ntmps27
 go_upto_region 1 with fail
 rw[<-hw1.out]
 refine rQ HK0.o (fun ops Hops=>?_)
 repeat
  (refine wQ ?_;apply xI;(·intro wx hwx;obtain⟨x0,x1,x2,x3,x4,x5,x6⟩:=HF.o wx hwx;go_simp <;> first | with_reducible rfl | with_reducible exact⟨rfl,rfl⟩ | exact HTk.o _ hwx);try go_simp)
 refine wpQuiet_nil ?_
 clear Hops ops
 intro w2 hw2
 have H2:Hid _:=HHs.o w2 hw2
 clear hw2
 go_wp2_with fail
 refine cM H2.o ?_
 rintro e w3 ⟨rfl,hw3⟩
 by_cases hlt:m.s.has < 0
 ·exact absurd hlt (Nat.not_lt_zero _)
 have hltI:¬ (((m.s.has:Nat):Int) < ((0:Nat):Int)):=by omega
 have HM2:Hid (({m with s:=(m.s.goto i).drop 0,kind:=0} : AM)=M):=by
  unfold Hid
  rw[<-HM.o]
  unfold AM.doT
  rw[Htp.o,if_neg hltI]
  simp only[Int.toNat_natCast]
  rw[if_neg (show ¬ ((18:Int)=6) by decide),if_neg (show ¬ ((18:Int)=25) by decide),if_neg (show ¬ ((18:Int)=14) by decide),if_pos True.intro]
 have hle:0<=m.s.vA.length:=by
  unfold St.has at hlt
  omega
 have Hle:=zh hle
 have hk3:=hw3
 obtain⟨x0,x1,x2,x3,x4,x5,x6⟩:=HF.o w3 hw3
 have HJ3:Hid (_/\_/\_):=⟨HJ.o.kp hw3,HB.o.1.trans (Mv.zk hw3),hw3⟩
 clear hw3 hlt hle
 have HF3:Hid (∀ wx,Kp [] w3 wx->_):=fun wx hx=>HF.o wx (hk3.trans hx)
 have hcl:=HX.o.2.2.2.2
 have hn0:=HX.o.2.1
 obtain⟨gc,cap,hvc,hcur⟩:=HJ3.o.1.curAt (by omega)
 have HN:Hid (∀ wx,Kp [] w3 wx->_):=zbw HJ3.o.1 (by omega) (fun wx hx=>(hcur wx hx).1)
 have HC5:Hid (∀ wx,Kp [] w3 wx->wx.cell? ⟨gc,(g.s.cA.length - 1) * 9+5,none⟩=some (.int .i64 g.s.cur.pc)/\gc < wx.heap.size/\wx.frozen? ⟨gc,(g.s.cA.length - 1) * 9+5,none⟩=false):=fun wx hx=>by
  have h5:=hcur wx hx
  refine⟨h5.2.1 5 (by omega),h5.2.2,?_⟩
  have hob:g.vc.ownBlock=some gc:=by rw[hvc];rfl
  obtain⟨_,cur,hh⟩:=(HJ3.o.1.kp hx).tc gc hob
  simp only[World.frozen?,hh]
  rfl
 have HP:Hid (∀ wx,Kp [] w3 wx->J X (wx.setCell ⟨gc,(g.s.cA.length - 1) * 9+5,none⟩ (.int .i64 (i:Int))) (g.setC g.vc (g.s.goto i).cA) {m with s:=m.s.goto i} R/\Mv X w g (wx.setCell ⟨gc,(g.s.cA.length - 1) * 9+5,none⟩ (.int .i64 (i:Int))) (g.setC g.vc (g.s.goto i).cA)):=fun wx hx=>by
  have h5:=(HJ3.o.1.kp hx).setPc hn0 hvc i
  exact⟨h5.1,(HJ3.o.2.1.trans (Mv.zk hx)).trans h5.2⟩
 clear hcl hn0 hvc hcur
 generalize (g.s.cA.length - 1) * 9=oo at *
 clear hk3
 go_upto_region 20 with fail
 refine zan 6 (C:=fun wx=>Kp [] w3 wx) (by kernel_rfl) ?_
 refine qT 0 rfl ?_
 apply xI
 (intro wx hwx;go_simp <;> rfl)
 refine qT 2 rfl ?_
 apply xI
 (intro wx hwx;go_simp <;> rfl)
 refine qT 3 rfl ?_
 apply xI
 (intro wx hwx;obtain⟨x0,x1,x2,x3,x4,x5,x6⟩:=HF3.o wx hwx;go_simp <;> rfl)
 refine oL 1 (Kp.refl [] w3).drew rfl (fun K hK=>?_)
 go_simp
 refine cM (HN.o _ (Kp.refl [] w3).drew) ?_
 rintro e4 w4 ⟨rfl,hw4⟩
 refine hK _ _ ?_
 clear hK K
 refine qT 4 rfl ?_
 apply xI
 (intro wx hwx;go_simp <;> rfl)
 refine qT 5 rfl ?_
 apply xI
 (intro wx hwx;go_simp <;> rfl)
 obtain⟨p0,p1,p2⟩:=HC5.o w4 hw4
 obtain⟨hJ5,hm5⟩:=HP.o w4 hw4
 have HJS:=zh hJ5
 have HMv:Hid (_/\_):=⟨hm5,HX.o.1⟩
 have Hlen:Hid (0<=m.s.vA.length):=Nat.zero_le _
 clear hJ5 hm5
 refine oL 6 hw4 rfl (fun K hK=>?_)
 go_simp
 refine hK _ _ ?_
 clear hK K p0 p1 p2 hw4
 refine zas (by kernel_rfl) (by kernel_rfl) ?_
 go_simp
 generalize w4.setCell _ _=w5 at *
 have HD:Hid _:=zba HJS.o 0 Hlen.o
 go_wp2_with fail
 refine cM HD.o ?_
 rintro e w10 ⟨rfl,g10,hp10⟩
 have Q:Hid (zD X w g M (.returned (.int .i64 0)) w10):=by
  unfold Hid
  rw[<-HM2.o]
  exact zD.of 0 rfl (g':=g10) (R':=R) (hp10.j.k0c HMv.o.2) (HMv.o.1.trans hp10.mv)
 clear hp10
 go_wp2_with fail
 exact bR (by simp[results,Tryz.results27,go_sem]) Q.o
theorem zub(h:J X w g m R)(E:Env X)(hk0:m.kind=0)(hn:0 < m.s.cA.length)(hvb:m.s.cur.vb<=m.s.vA.length)(i:Nat)(b:Int):Calls Tryz.prog 27 #[.pointer (some ⟨X.mm,0,none⟩),.agg #[.int .i64 19,.int .i64 (i:Int),.int .i64 b]] w fun e w'=>zD X w g (AM.doT (room X.cells) X.cd m ⟨19,(i:Int),b⟩ 1) e w':=by
 have htp:zT X.cd.funs ⟨19,(i:Int),b⟩=((1:Nat):Int):=by simp[zT]
 obtain⟨w1,hw1,HB,HJ,HTk,HHs,HF,HK0,HX⟩:=preDW h E hk0 hn hvb 19 (i:Int) b htp
 have HE:=zh E
 generalize hM:AM.doT (room X.cells) X.cd m ⟨19,(i:Int),b⟩ 1=M
 have HM:=zh hM
 have Htp:=zh htp
 clear hM h E hk0 hn hvb htp
 go_enter Tryz.func27,Tryz.ntmps27
 go_upto_region 1 with fail
 rw[<-hw1.out]
 refine rQ HK0.o (fun ops Hops=>?_)
 repeat
  (refine wQ ?_;apply xI;(·intro wx hwx;obtain⟨x0,x1,x2,x3,x4,x5,x6⟩:=HF.o wx hwx;go_simp <;> first | with_reducible rfl | with_reducible exact⟨rfl,rfl⟩ | exact HTk.o _ hwx);try go_simp)
 refine wpQuiet_nil ?_
 clear Hops ops
 intro w2 hw2
 have H2:Hid _:=HHs.o w2 hw2
 clear hw2
 go_wp2_with fail
 refine cM H2.o ?_
 rintro e w3 ⟨rfl,hw3⟩
 by_cases hlt:m.s.has < 1
 ·have hltI:((m.s.has:Nat):Int) < ((1:Nat):Int):=by omega
  have Q:Hid (zD X w g M (.returned (.int .i64 4)) w3):=by
   unfold Hid
   rw[<-HM.o]
   unfold AM.doT
   rw[Htp.o,if_pos hltI]
   exact zD.of 4 rfl (g':=g) (R':=R) ((HJ.o.kp hw3).k0c HX.o.1) (HB.o.1.trans (Mv.zk hw3))
  clear hw3 hlt
  go_wp2_with fail
  exact bR (by simp[results,Tryz.results27,go_sem]) Q.o
 have hltI:¬ (((m.s.has:Nat):Int) < ((1:Nat):Int)):=by omega
 have HM2:Hid ((if(m.s.top 0).p then {m with kind:=4} else {m with s:=(if(m.s.top 0).n=1 then m.s else m.s.goto i).drop 1,kind:=0} : AM)=M):=by
  unfold Hid
  rw[<-HM.o]
  unfold AM.doT
  rw[Htp.o,if_neg hltI]
  simp only[Int.toNat_natCast]
  rw[if_neg (show ¬ ((19:Int)=6) by decide),if_neg (show ¬ ((19:Int)=25) by decide),if_neg (show ¬ ((19:Int)=14) by decide),if_neg (show ¬ ((19:Int)=18) by decide),if_pos True.intro]
 have hle:1<=m.s.vA.length:=by
  unfold St.has at hlt
  omega
 have Hle:=zh hle
 have hk3:=hw3
 obtain⟨x0,x1,x2,x3,x4,x5,x6⟩:=HF.o w3 hw3
 have HJ3:Hid (_/\_/\_):=⟨HJ.o.kp hw3,HB.o.1.trans (Mv.zk hw3),hw3⟩
 clear hw3 hlt hle
 have hl0:0 < m.s.vA.length:=Hle.o
 have HT0:Hid (∀ wx,Kp [] w3 wx->Calls Tryz.prog 49 #[.pointer (some ⟨X.mm,0,none⟩),.int .i64 0] wx fun e w'=>e=.returned (.agg #[.bool (g.s.top 0).p,.int .i64 (g.s.top 0).n])/\Kp [] w3 w'):=zbc HJ3.o.1 0 (by rw[HX.o.2.2.2.1];exact hl0)
 have HI:Hid (_/\_):=⟨HJ3.o.1.top 0 hl0,HJ3.o.1.topwf 0 hl0⟩
 clear hl0
 have HF3:Hid (∀ wx,Kp [] w3 wx->_):=fun wx hx=>HF.o wx (hk3.trans hx)
 have hcl:=HX.o.2.2.2.2
 have hn0:=HX.o.2.1
 obtain⟨gc,cap,hvc,hcur⟩:=HJ3.o.1.curAt (by omega)
 have HN:Hid (∀ wx,Kp [] w3 wx->_):=zbw HJ3.o.1 (by omega) (fun wx hx=>(hcur wx hx).1)
 have HC5:Hid (∀ wx,Kp [] w3 wx->wx.cell? ⟨gc,(g.s.cA.length - 1) * 9+5,none⟩=some (.int .i64 g.s.cur.pc)/\gc < wx.heap.size/\wx.frozen? ⟨gc,(g.s.cA.length - 1) * 9+5,none⟩=false):=fun wx hx=>by
  have h5:=hcur wx hx
  refine⟨h5.2.1 5 (by omega),h5.2.2,?_⟩
  have hob:g.vc.ownBlock=some gc:=by rw[hvc];rfl
  obtain⟨_,cur,hh⟩:=(HJ3.o.1.kp hx).tc gc hob
  simp only[World.frozen?,hh]
  rfl
 have HP:Hid (∀ wx,Kp [] w3 wx->J X (wx.setCell ⟨gc,(g.s.cA.length - 1) * 9+5,none⟩ (.int .i64 (i:Int))) (g.setC g.vc (g.s.goto i).cA) {m with s:=m.s.goto i} R/\Mv X w g (wx.setCell ⟨gc,(g.s.cA.length - 1) * 9+5,none⟩ (.int .i64 (i:Int))) (g.setC g.vc (g.s.goto i).cA)):=fun wx hx=>by
  have h5:=(HJ3.o.1.kp hx).setPc hn0 hvc i
  exact⟨h5.1,(HJ3.o.2.1.trans (Mv.zk hx)).trans h5.2⟩
 clear hcl hn0 hvc hcur
 generalize (g.s.cA.length - 1) * 9=oo at *
 have hf0:=zc2 (g.s.top 0).p (g.s.top 0).n
 have hf1:=za9 (g.s.top 0).p (g.s.top 0).n
 generalize g.s.top 0=c0 at *
 obtain⟨ap,an⟩:=c0
 obtain⟨e1,e2,-⟩:=HI.o.1
 simp only at HT0 e1 e2 hf0 hf1
 clear hk3
 have H1:Hid _:=HT0.o w3 kr
 go_wp2_with fail
 refine cM H1.o ?_
 rintro e w6 ⟨rfl,hw6⟩
 cases ap with
 | true=>
  rw[if_pos e1.symm] at HM2
  have Q:Hid (zD X w g M (.returned (.int .i64 4)) w6):=by
   unfold Hid
   rw[<-HM2.o]
   exact zD.of 4 rfl (g':=g) (R':=R) ((HJ3.o.1.kp hw6).k0c HX.o.1) (HJ3.o.2.1.trans (Mv.zk hw6))
  clear hw6 e1 e2 x0 x1 x2 x3 x4 x5 x6
  go_wp2_with fail
  exact bR (by simp[results,Tryz.results27,go_sem]) Q.o
 | false=>
  have hbn:=e2 rfl
  rw[if_neg (by rw[<-e1];exact Bool.false_ne_true),<-hbn] at HM2
  have H2:Hid _:=HT0.o w6 hw6
  clear e1 e2 hbn hw6
  go_wp2_with fail
  refine cM H2.o ?_
  clear hf0
  rintro e w7 ⟨rfl,hw7⟩
  by_cases h1:an=1
  ·have h1':(an != 1)=false:=by simp[h1]
   rw[if_pos h1] at HM2
   have HJS:=zh (HJ3.o.1.kp hw7)
   have HMv:Hid (_/\_):=⟨HJ3.o.2.1.trans (Mv.zk hw7),HX.o.1⟩
   have Hlen:=zh Hle.o
   clear x0 x1 x2 x3 x4 x5 x6 hw7 h1
   have HD:Hid _:=zba HJS.o 1 Hlen.o
   go_wp2_with fail
   refine cM HD.o ?_
   rintro e w10 ⟨rfl,g10,hp10⟩
   have Q:Hid (zD X w g M (.returned (.int .i64 0)) w10):=by
    unfold Hid
    rw[<-HM2.o]
    exact zD.of 0 rfl (g':=g10) (R':=R) (hp10.j.k0c HMv.o.2) (HMv.o.1.trans hp10.mv)
   clear hp10
   go_wp2_with fail
   exact bR (by simp[results,Tryz.results27,go_sem]) Q.o
  ·have h1':(an != 1)=true:=by simp[h1]
   rw[if_neg h1] at HM2
   clear h1
   go_upto_region 25 with fail
   refine zan 6 (C:=fun wx=>Kp [] w3 wx) (by kernel_rfl) ?_
   refine qT 0 rfl ?_
   apply xI
   (intro wx hwx;go_simp <;> rfl)
   refine qT 2 rfl ?_
   apply xI
   (intro wx hwx;go_simp <;> rfl)
   refine qT 3 rfl ?_
   apply xI
   (intro wx hwx;obtain⟨x0,x1,x2,x3,x4,x5,x6⟩:=HF3.o wx hwx;go_simp <;> rfl)
   refine oL 1 hw7.drew rfl (fun K hK=>?_)
   go_simp
   refine cM (HN.o _ hw7.drew) ?_
   rintro e4 w4 ⟨rfl,hw4⟩
   refine hK _ _ ?_
   clear hK K
   refine qT 4 rfl ?_
   apply xI
   (intro wx hwx;go_simp <;> rfl)
   refine qT 5 rfl ?_
   apply xI
   (intro wx hwx;go_simp <;> rfl)
   obtain⟨p0,p1,p2⟩:=HC5.o w4 hw4
   obtain⟨hJ5,hm5⟩:=HP.o w4 hw4
   have HJS:=zh hJ5
   have HMv:Hid (_/\_):=⟨hm5,HX.o.1⟩
   have Hlen:=zh Hle.o
   clear hJ5 hm5
   refine oL 6 hw4 rfl (fun K hK=>?_)
   go_simp
   refine hK _ _ ?_
   clear hK K p0 p1 p2 hw4
   refine zas (by kernel_rfl) (by kernel_rfl) ?_
   go_simp
   generalize w4.setCell _ _=w5 at *
   have HD:Hid _:=zba HJS.o 1 Hlen.o
   go_wp2_with fail
   refine cM HD.o ?_
   rintro e w10 ⟨rfl,g10,hp10⟩
   have Q:Hid (zD X w g M (.returned (.int .i64 0)) w10):=by
    unfold Hid
    rw[<-HM2.o]
    exact zD.of 0 rfl (g':=g10) (R':=R) (hp10.j.k0c HMv.o.2) (HMv.o.1.trans hp10.mv)
   clear hp10
   go_wp2_with fail
   exact bR (by simp[results,Tryz.results27,go_sem]) Q.o
theorem zt9(h:J X w g m R)(E:Env X)(hk0:m.kind=0)(hn:0 < m.s.cA.length)(hvb:m.s.cur.vb<=m.s.vA.length)(a b:Int)(ht0:0 < m.s.tA.length)(ht9:m.s.tA.length<=1000000000):Calls Tryz.prog 27 #[.pointer (some ⟨X.mm,0,none⟩),.agg #[.int .i64 21,.int .i64 a,.int .i64 b]] w fun e w'=>zD X w g (AM.doT (room X.cells) X.cd m ⟨21,a,b⟩ 0) e w':=by
 have htp:zT X.cd.funs ⟨21,a,b⟩=((0:Nat):Int):=by simp[zT]
 obtain⟨w1,hw1,HB,HJ,HTk,HHs,HF,HK0,HX⟩:=preDW h E hk0 hn hvb 21 a b htp
 have HE:=zh E
 generalize hM:AM.doT (room X.cells) X.cd m ⟨21,a,b⟩ 0=M
 have HM:=zh hM
 have Htp:=zh htp
 have HY:Hid (_/\_):=⟨ht0,ht9⟩
 clear ht0 ht9
 clear hM h E hk0 hn hvb htp
 go_enter Tryz.func27,Tryz.ntmps27
 go_upto_region 1 with fail
 rw[<-hw1.out]
 refine rQ HK0.o (fun ops Hops=>?_)
 repeat
  (refine wQ ?_;apply xI;(·intro wx hwx;obtain⟨x0,x1,x2,x3,x4,x5,x6⟩:=HF.o wx hwx;go_simp <;> first | with_reducible rfl | with_reducible exact⟨rfl,rfl⟩ | exact HTk.o _ hwx);try go_simp)
 refine wpQuiet_nil ?_
 clear Hops ops
 intro w2 hw2
 have H2:Hid _:=HHs.o w2 hw2
 clear hw2
 go_wp2_with fail
 refine cM H2.o ?_
 rintro e w3 ⟨rfl,hw3⟩
 by_cases hlt:m.s.has < 0
 ·exact absurd hlt (Nat.not_lt_zero _)
 have hltI:¬ (((m.s.has:Nat):Int) < ((0:Nat):Int)):=by omega
 have HM2:Hid (({m with s:=({m.s with tA:=m.s.tA.dropLast} : St).drop 0,kind:=0} : AM)=M):=by
  unfold Hid
  rw[<-HM.o]
  unfold AM.doT
  rw[Htp.o,if_neg hltI]
  simp only
  rw[if_neg (show ¬ ((21:Int)=6) by decide),if_neg (show ¬ ((21:Int)=25) by decide),if_neg (show ¬ ((21:Int)=14) by decide),if_neg (show ¬ ((21:Int)=18) by decide),if_neg (show ¬ ((21:Int)=19) by decide),if_neg (show ¬ ((21:Int)=20) by decide),if_pos True.intro]
 have hle:0<=m.s.vA.length:=by
  unfold St.has at hlt
  omega
 have Hle:=zh hle
 have hk3:=hw3
 obtain⟨x0,x1,x2,x3,x4,x5,x6⟩:=HF.o w3 hw3
 have HJ3:Hid (_/\_/\_):=⟨HJ.o.kp hw3,HB.o.1.trans (Mv.zk hw3),hw3⟩
 clear hw3 hlt hle
 obtain⟨y1,y2⟩:=HY.o
 have htr:=HJ3.o.1.st.tr
 obtain⟨q,cap,hv,hc,hq,hz⟩:=zah HJ3.o.1.ot
 have hsl:=zk1 q g.s.tA.length cap (g.s.tA.length - 1) hq hz (by omega)
 have c2:w3.cell? ⟨X.mm,33,none⟩=some (.slice q g.s.tA.length cap):=by rw[<-hv];exact HJ3.o.1.box.rows.2.2.2.1
 have cl:=HJ3.o.1.box.lt
 have cf:=HJ3.o.1.box.frozen 33
 have hw:IntKind.i64.wrap ((g.s.tA.length:Int) - 1)=((g.s.tA.length - 1:Nat):Int):=by
  rw[IntKind.wrap_i64,htr]
  omega
 have hcut:=HJ3.o.1.cutT hv (j:=g.s.tA.length - 1) (by omega) 1
 rw[show m.setT (g.s.tA.take (g.s.tA.length - 1))={m with s:={m.s with tA:=m.s.tA.dropLast}} from by rw[htr,<-List.dropLast_eq_take];rfl] at hcut
 have HJS:Hid (J X (w3.setCell ⟨X.mm,33,none⟩ (.slice q (g.s.tA.length - 1) cap)).drew (g.setT (.slice q (g.s.tA.length - 1) cap) (g.s.tA.take (g.s.tA.length - 1))) {m with s:={m.s with tA:=m.s.tA.dropLast}} R):=hcut.1
 have HMv:Hid (Mv X w g (w3.setCell ⟨X.mm,33,none⟩ (.slice q (g.s.tA.length - 1) cap)).drew (g.setT (.slice q (g.s.tA.length - 1) cap) (g.s.tA.take (g.s.tA.length - 1)))/\_):=⟨HJ3.o.2.1.trans hcut.2,HX.o.1⟩
 have Hlen:Hid (0<=m.s.vA.length):=Nat.zero_le _
 clear y1 y2 htr hv hc hq hz hcut hk3 x0 x1 x4 x5
 generalize g.s.tA.length - 1=jj at *
 generalize g.setT (.slice q jj cap) (g.s.tA.take jj)=gS at *
 go_upto_region 29 with fail
 go_region
 all_goals
  generalize (w3.setCell _ _).drew=w5 at *
  have HD:Hid _:=zba HJS.o 0 Hlen.o
  go_wp2_with fail
  refine cM HD.o ?_
  rintro e w10 ⟨rfl,g10,hp10⟩
  have Q:Hid (zD X w g M (.returned (.int .i64 0)) w10):=by
   unfold Hid
   rw[<-HM2.o]
   exact zD.of 0 rfl (g':=g10) (R':=R) (hp10.j.k0c HMv.o.2) (HMv.o.1.trans hp10.mv)
  clear hp10
  go_wp2_with fail
  exact bR (by simp[results,Tryz.results27,go_sem]) Q.o
theorem zua(h:J X w g m R)(E:Env X)(hk0:m.kind=0)(hn:0 < m.s.cA.length)(hvb:m.s.cur.vb<=m.s.vA.length)(i:Nat)(b:Int)(ht9:m.s.tA.length+1<=1000000000):Calls Tryz.prog 27 #[.pointer (some ⟨X.mm,0,none⟩),.agg #[.int .i64 20,.int .i64 (i:Int),.int .i64 b]] w fun e w'=>zD X w g (AM.doT (room X.cells) X.cd m ⟨20,(i:Int),b⟩ 0) e w':=by
 have htp:zT X.cd.funs ⟨20,(i:Int),b⟩=((0:Nat):Int):=by simp[zT]
 obtain⟨w1,hw1,HB,HJ,HTk,HHs,HF,HK0,HX⟩:=preDW h E hk0 hn hvb 20 (i:Int) b htp
 have HE:=zh E
 generalize hM:AM.doT (room X.cells) X.cd m ⟨20,(i:Int),b⟩ 0=M
 have HM:=zh hM
 have Htp:=zh htp
 have HY:=zh ht9
 clear ht9
 clear hM h E hk0 hn hvb htp
 go_enter Tryz.func27,Tryz.ntmps27
 go_upto_region 1 with fail
 rw[<-hw1.out]
 refine rQ HK0.o (fun ops Hops=>?_)
 repeat
  (refine wQ ?_;apply xI;(·intro wx hwx;obtain⟨x0,x1,x2,x3,x4,x5,x6⟩:=HF.o wx hwx;go_simp <;> first | with_reducible rfl | with_reducible exact⟨rfl,rfl⟩ | exact HTk.o _ hwx);try go_simp)
 refine wpQuiet_nil ?_
 clear Hops ops
 intro w2 hw2
 have H2:Hid _:=HHs.o w2 hw2
 clear hw2
 go_wp2_with fail
 refine cM H2.o ?_
 rintro e w3 ⟨rfl,hw3⟩
 by_cases hlt:m.s.has < 0
 ·exact absurd hlt (Nat.not_lt_zero _)
 have hltI:¬ (((m.s.has:Nat):Int) < ((0:Nat):Int)):=by omega
 have HM2:Hid (({m with s:=({m.s with tA:=m.s.tA++[Tr.mk i m.s.has]} : St).drop 0,kind:=0} : AM)=M):=by
  unfold Hid
  rw[<-HM.o]
  unfold AM.doT
  rw[Htp.o,if_neg hltI]
  simp only[Int.toNat_natCast]
  rw[if_neg (show ¬ ((20:Int)=6) by decide),if_neg (show ¬ ((20:Int)=25) by decide),if_neg (show ¬ ((20:Int)=14) by decide),if_neg (show ¬ ((20:Int)=18) by decide),if_neg (show ¬ ((20:Int)=19) by decide),if_pos True.intro]
 have hle:0<=m.s.vA.length:=by
  unfold St.has at hlt
  omega
 have Hle:=zh hle
 have hk3:=hw3
 obtain⟨x0,x1,x2,x3,x4,x5,x6⟩:=HF.o w3 hw3
 have HJ3:Hid (_/\_/\_):=⟨HJ.o.kp hw3,HB.o.1.trans (Mv.zk hw3),hw3⟩
 clear hw3 hlt hle
 have htr:=HJ3.o.1.st.tr
 obtain⟨q,cap,hv,hc,hq,hz⟩:=zah HJ3.o.1.ot
 have hmb:=HJ3.o.1.box
 unfold MBx at hmb
 have Hbox:Hid (∀ wx,Kp g.vt.ownBlock.toList w3 wx->wx.cell? ⟨X.mm,33,none⟩=some (.slice q g.s.tA.length cap)/\X.mm < wx.heap.size/\wx.cell? ⟨w.heap.size,1,none⟩=some (.int .i64 (i:Int))/\w.heap.size < wx.heap.size/\wx.frozen? ⟨X.mm,33,none⟩=false):=fun wx hx=>by
  have h1:=HJ3.o.1.box.kp hx (HJ3.o.1.tt.ne hmb (by decide))
  have e3:=(hk3.block _ HB.o.2.2.1.1 (by simp)).trans HB.o.2.1
  have h2:=(hx.block w.heap.size (sz e3) (fun e=>HB.o.2.2.1.2 (by unfold fpt;simp only[List.mem_cons,List.mem_append];exact Or.inr (Or.inr (Or.inr (Or.inr (Or.inr (Or.inr (Or.inl e))))))))).trans e3
  obtain⟨f0,f1,f2,f3⟩:=zb9 h2
  exact⟨by rw[<-hv];exact h1.rows.2.2.2.1,h1.lt,f1,f3,h1.frozen 33⟩
 have HH:Hid (∀ wx,Kp [] w3 wx->_):=fun wx hx=>HHs.o wx (hk3.trans hx)
 have HH3:Hid (∀ wx,Kp [] w3 wx->Calls Tryz.prog 47 #[.pointer (some ⟨X.mm,0,none⟩)] wx fun e w'=>e=.returned (.int .i64 ((m.s.has:Nat):Int))/\Kp [] w3 w'):=fun wx hx=>by
  have h5:=zq1 HJ3.o.1 (by rw[HX.o.2.2.2.2];exact HX.o.2.1) (by rw[HX.o.2.2.2.1,(HJ3.o.1.cur HX.o.2.1).vb];exact HX.o.2.2.1) wx hx
  have e:g.s.has=m.s.has:=by
   unfold St.has
   rw[HX.o.2.2.2.1,(HJ3.o.1.cur HX.o.2.1).vb]
  rw[e] at h5
  exact h5
 have Hv:Hid (_/\_):=⟨hv,htr⟩
 have hl9:m.s.tA.length<=1000000000:=by
  have:=HY.o
  omega
 clear hk3 hc hq hz hv htr hmb
 go_upto_region 27 with fail
 clear x0 x1 x2 x3 x4 x5 x6
 generalize m.s.has=hs at *
 refine zan 14 (C:=fun wx=>Kp g.vt.ownBlock.toList w3 wx) (by kernel_rfl) ?_
 refine qL 0 rfl ?_
 apply xI
 (intro wx hwx;go_simp <;> rfl)
 refine qL 1 rfl ?_
 apply xI
 (intro wx hwx;go_simp <;> rfl)
 refine qL 2 rfl ?_
 apply xI
 (intro wx hwx;go_simp <;> rfl)
 refine qL 3 rfl ?_
 apply xI
 (intro wx hwx;go_simp <;> rfl)
 refine qL 4 rfl ?_
 apply xI
 (intro wx hwx;obtain⟨f0,f1,f2,f3,f4⟩:=Hbox.o wx hwx;go_simp <;> rfl)
 refine qL 5 rfl ?_
 apply xI
 (intro wx hwx;go_simp <;> rfl)
 refine qL 6 rfl ?_
 apply xI
 (intro wx hwx;obtain⟨f0,f1,f2,f3,f4⟩:=Hbox.o wx hwx;go_simp <;> rfl)
 refine qL 7 rfl ?_
 apply xI
 (intro wx hwx;go_simp <;> rfl)
 refine oL 8 ((Kp.refl _ w3).drew) rfl (fun K hK=>?_)
 go_simp
 refine cM (HH3.o _ (Kp.refl [] w3).drew) ?_
 rintro e4 w4 ⟨rfl,hw4⟩
 refine hK _ _ ?_
 clear hK K
 refine qL 9 rfl ?_
 apply xI
 (intro wx hwx;go_simp <;> rfl)
 refine oL 10 (hw4.mono (by simp)) rfl (fun K hK=>?_)
 go_simp
 refine hK _ _ ?_
 clear hK K
 have HK5:Hid (Kp [] w3 (w4.alloc (.cells #[.int .i64 (i:Int),.int .i64 ((hs:Nat):Int)] 137))):=hw4.trans kA
 have hb5:(w4.alloc (.cells #[.int .i64 (i:Int),.int .i64 ((hs:Nat):Int)] 137)).heap[w4.heap.size]? = some (.cells [.int .i64 (i:Int),.int .i64 ((hs:Nat):Int)].toArray 137):=zab w4 _
 generalize w4.alloc (.cells #[.int .i64 (i:Int),.int .i64 ((hs:Nat):Int)] 137)=w5 at HK5 hb5 ⊢
 have hJ5:=HJ3.o.1.kp HK5.o
 obtain⟨v6,w6,hrun,ho6,hg6,hv6⟩:=zgb ztn zu7 (by rfl) (by decide) (show w5.ownsRow X.base 137 2 (.slice q g.s.tA.length cap) g.s.tA.length (zf0 g.s.tA) from by rw[<-Hv.o.1];exact hJ5.ot) [.int .i64 (i:Int),.int .i64 ((hs:Nat):Int)] rfl (by simp[Value.oneCell']) _ hb5 (by rw[Hv.o.2];exact hl9) (by decide) hJ5.bs 61
 have HK6:Hid (Kp g.vt.ownBlock.toList w3 w6):=(HK5.o.mono (by simp)).trans (Kp.of_grown hg6 (by intro k hk;rw[Hv.o.1];simpa using hk))
 refine oL 11 (HK5.o.mono (by simp)) rfl (fun K hK=>?_)
 rw[if_pos (by kernel_rfl)]
 refine Lib.wp_append_run _ (Operand.tmp 102) (Operand.tmp 108) 61 61 rfl _ _ rfl rfl _ _ hrun ?_
 refine hK _ _ ?_
 clear hK K hrun
 have hs3:=HK5.o.size
 have happ:=HJ3.o.1.appT ⟨i,hs⟩ ho6 HK6.o (by
   rcases hv6 with e | e
   ·exact Or.inl (by rw[e,Hv.o.1])
   ·exact Or.inr ⟨_,e,hs3⟩) HY.o 0
 rw[show m.setT (g.s.tA++[⟨i,hs⟩])={m with s:={m.s with tA:=m.s.tA++[Tr.mk i hs]}} from by rw[Hv.o.2];rfl] at happ
 obtain⟨p4,c4,hv4',_⟩:=zah ho6
 have HJS:Hid (J X (w6.setCell ⟨X.mm,33,none⟩ v6) (g.setT v6 (g.s.tA++[⟨i,hs⟩])) {m with s:={m.s with tA:=m.s.tA++[Tr.mk i hs]}} R):=happ.1
 have HMv:Hid (Mv X w g (w6.setCell ⟨X.mm,33,none⟩ v6) (g.setT v6 (g.s.tA++[⟨i,hs⟩]))/\_):=⟨HJ3.o.2.1.trans happ.2,HX.o.1⟩
 have Hlen:Hid (0<=m.s.vA.length):=Nat.zero_le _
 obtain⟨f0,f1,f2,f3,f4⟩:=Hbox.o w6 HK6.o
 subst hv4'
 clear ho6 hg6 hv6 hJ5 hb5 happ hl9 hw4
 refine oL 12 HK6.o rfl (fun K hK=>?_)
 go_simp
 refine hK _ _ ?_
 clear hK K
 refine oL 13 HK6.o rfl (fun K hK=>?_)
 go_simp
 refine hK _ _ ?_
 clear hK K
 refine oL 14 HK6.o rfl (fun K hK=>?_)
 go_simp
 refine hK _ _ ?_
 clear hK K f0 f1 f2 f3 f4 hs3
 refine zas (by kernel_rfl) (by kernel_rfl) ?_
 go_simp
 generalize g.setT (.slice p4 (g.s.tA.length+1) c4) (g.s.tA++[⟨i,hs⟩])=gS at *
 generalize w6.setCell _ _=w7 at *
 have HD:Hid _:=zba HJS.o 0 Hlen.o
 go_wp2_with fail
 refine cM HD.o ?_
 rintro e w10 ⟨rfl,g10,hp10⟩
 have Q:Hid (zD X w g M (.returned (.int .i64 0)) w10):=by
  unfold Hid
  rw[<-HM2.o]
  exact zD.of 0 rfl (g':=g10) (R':=R) (hp10.j.k0c HMv.o.2) (HMv.o.1.trans hp10.mv)
 clear hp10
 go_wp2_with fail
 exact bR (by simp[results,Tryz.results27,go_sem]) Q.o
end
end Go.Proofs.YtkcmachfagcnaaaGreatDoor
