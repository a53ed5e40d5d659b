/- Part of Greater. -/
import Derived.Test.YtkcmachfagcnaaaGreatDoorB42
set_option maxHeartbeats 8000000
set_option maxRecDepth 100000
namespace Go.Proofs.YtkcmachfagcnaaaGreatDoor
open Go.RowKit Go.Deep Go.IntWalk
open C12 (zX zF Cd Fn In zT)
section
variable{X:Fx}{w:World}{g:Pg}{m:AM}{R:Int->Int->Prop}
theorem zug(h:J X w g m R)(E:Env X)(hk0:m.kind=0)(hn:0 < m.s.cA.length)(hvb:m.s.cur.vb<=m.s.vA.length)(i j:Nat)(hi:i<=65535)(hsb:m.s.cur.sb<=1000000000):Calls Tryz.prog 27 #[.pointer (some ⟨X.mm,0,none⟩),.agg #[.int .i64 14,.int .i64 (i:Int),.int .i64 (j:Int)]] w fun e w'=>zD X w g (AM.doT (room X.cells) X.cd m ⟨14,(i:Int),(j:Int)⟩ 1) e w':=by
 have htp:zT X.cd.funs ⟨14,(i:Int),(j:Int)⟩=((1:Nat):Int):=by simp[zT]
 obtain⟨w1,hw1,HB,HJ,HTk,HHs,HF,HK0,HX⟩:=preDW h E hk0 hn hvb 14 (i:Int) (j:Int) htp
 have HE:=zh E
 generalize hM:AM.doT (room X.cells) X.cd m ⟨14,(i:Int),(j:Int)⟩ 1=M
 have HM:=zh hM
 have Htp:=zh htp
 have HY:Hid (_/\_):=⟨hi,hsb⟩
 clear hi hsb
 clear hM h E hk0 hn hvb htp
 go_enter Tryz.func27,Tryz.ntmps27
 go_upto_region 1 with fail
 rw[<-hw1.out]
 refine rQ HK0.o (fun ops Hops=>?_)
 repeat
  (refine wQ ?_;apply xI;(·intro wx hwx;obtain⟨x0,x1,x2,x3,x4,x5,x6⟩:=HF.o wx hwx;go_simp <;> first | with_reducible rfl | with_reducible exact⟨rfl,rfl⟩ | exact HTk.o _ hwx);try go_simp)
 refine wpQuiet_nil ?_
 clear Hops ops
 intro w2 hw2
 have H2:Hid _:=HHs.o w2 hw2
 clear hw2
 go_wp2_with fail
 refine cM H2.o ?_
 rintro e w3 ⟨rfl,hw3⟩
 by_cases hlt:m.s.has < 1
 ·have hltI:((m.s.has:Nat):Int) < ((1:Nat):Int):=by omega
  have Q:Hid (zD X w g M (.returned (.int .i64 4)) w3):=by
   unfold Hid
   rw[<-HM.o]
   unfold AM.doT
   rw[Htp.o,if_pos hltI]
   exact zD.of 4 rfl (g':=g) (R':=R) ((HJ.o.kp hw3).k0c HX.o.1) (HB.o.1.trans (Mv.zk hw3))
  clear hw3 hlt
  go_wp2_with fail
  exact bR (by simp[results,Tryz.results27,go_sem]) Q.o
 have hltI:¬ (((m.s.has:Nat):Int) < ((1:Nat):Int)):=by omega
 have HM2:Hid ((if hasF m.D (m.s.slot i) 1 j then {m with D:=setA m.D (m.s.slot i).n j (m.s.top 0),s:=m.s.drop 1,kind:=0} else {m with kind:=4} : AM)=M):=by
  unfold Hid
  rw[<-HM.o]
  unfold AM.doT
  rw[Htp.o,if_neg hltI]
  simp only[Int.toNat_natCast]
  rw[if_neg (show ¬ ((14:Int)=6) by decide),if_neg (show ¬ ((14:Int)=25) by decide),if_pos True.intro]
 have hle:1<=m.s.vA.length:=by
  unfold St.has at hlt
  omega
 have Hle:=zh hle
 have hk3:=hw3
 obtain⟨x0,x1,x2,x3,x4,x5,x6⟩:=HF.o w3 hw3
 have HJ3:Hid (_/\_/\_):=⟨HJ.o.kp hw3,HB.o.1.trans (Mv.zk hw3),hw3⟩
 clear hw3 hlt hle
 have hl0:0 < m.s.vA.length:=Hle.o
 have HT0:Hid (∀ wr,Kp [] w3 wr->∀ wx,Kp [] wr wx->Calls Tryz.prog 49 #[.pointer (some ⟨X.mm,0,none⟩),.int .i64 0] wx fun e w'=>e=.returned (.agg #[.bool (g.s.top 0).p,.int .i64 (g.s.top 0).n])/\Kp [] wr w'):=fun wr hr=>zbc (HJ3.o.1.kp hr) 0 (by rw[HX.o.2.2.2.1];exact hl0)
 have HI:Hid (_/\_):=⟨HJ3.o.1.top 0 hl0,HJ3.o.1.topwf 0 hl0⟩
 clear hl0
 have HS:=zh (zl0 HJ3.o.1 HX.o.2.1 i HY.o.1 HY.o.2 w3 kr)
 have HIs:=zh ((HJ3.o.1.slotI HX.o.2.1 i).1)
 have HH:=zh (fun wx (hx:Kp [] w3 wx)=>zf2 (HJ3.o.1.kp hx) (g.s.slot i) (m.s.slot i) HIs.o 1 j wx kr)
 have Hbx:=zh ((hk3.block _ HB.o.2.2.1.1 (by simp)).trans HB.o.2.1)
 clear hk3
 generalize g.s.slot i=c1 at *
 generalize g.s.top 0=c0 at *
 obtain⟨sp,sn⟩:=c1
 obtain⟨ap,an⟩:=c0
 simp only at HT0 HS HH
 go_wp2_with fail
 refine cM HS.o ?_
 rintro e w4 ⟨rfl,hw4⟩
 have HK5:Hid (Kp [] w3 (w4.alloc (.cells #[.bool sp,.int .i64 sn] 67))):=hw4.trans kA
 have Hb5:Hid ((w4.alloc (.cells #[.bool sp,.int .i64 sn] 67)).heap[w4.heap.size]? = some (.cells #[.bool sp,.int .i64 sn] 67)):=zab w4 _
 have Hb6:=zh (zad Hbx.o HK5.o)
 have H5:Hid _:=HH.o _ HK5.o
 obtain⟨-,-,i2,i3⟩:=zb9 Hb6.o
 clear x0 x1 x2 x3 x4 x5 x6 hw4
 cases hf:hasF m.D (m.s.slot i) 1 j with
 | false=>
  rw[hf] at H5
  rw[hf,if_neg Bool.false_ne_true] at HM2
  go_wp2_with fail
  refine cM H5.o ?_
  rintro e w6 ⟨rfl,hw6⟩
  have Q:Hid (zD X w g M (.returned (.int .i64 4)) w6):=by
   unfold Hid
   rw[<-HM2.o]
   exact zD.of 4 rfl (g':=g) (R':=R) ((HJ3.o.1.kp (HK5.o.trans hw6)).k0c HX.o.1) (HJ3.o.2.1.trans (Mv.zk (HK5.o.trans hw6)))
  clear hf hw6 i2 i3
  go_wp2_with fail
  exact bR (by simp[results,Tryz.results27,go_sem]) Q.o
 | true=>
  rw[hf] at H5
  rw[hf,if_pos rfl] at HM2
  unfold hasF at hf
  simp only[Bool.and_eq_true,decide_eq_true_eq] at hf
  obtain⟨hf1,hf2⟩:=hf
  obtain⟨hvp,-⟩:=zat hf1
  obtain⟨q1,-,q3⟩:=HIs.o
  have hsp:sp=true:=by rw[show sp=(m.s.slot i).p from q1];exact hvp
  have hR:R sn (m.s.slot i).n:=q3 hsp
  have HSet:Hid (∀ wx,Kp [] w3 wx->Calls Tryz.prog 52 #[.pointer (some ⟨X.hp,0,none⟩),.int .i64 sn,.int .i64 (j:Int),.agg #[.bool ap,.int .i64 an]] wx fun e w'=>e=.returned (.tuple #[])/\∃ ts',J X w' {g with ts:=ts'} (m.setD (m.s.slot i).n j (m.s.top 0)) R/\Mv X wx g w' {g with ts:=ts'}):=fun wx hx=>zdp (HJ3.o.1.kp hx) hR j hf2 ⟨ap,an⟩ (m.s.top 0) HI.o.1 HI.o.2
  clear hf1 hf2 hvp q1 q3 hsp hR
  go_wp2_with fail
  refine cM H5.o ?_
  rintro e w6 ⟨rfl,hw6⟩
  have hk6:=HK5.o.trans hw6
  have HT6:Hid (∀ wx,Kp [] w6 wx->_):=HT0.o w6 hk6
  have HF6:Hid (∀ wx,Kp [] w6 wx->(wx.cell? ⟨X.mm,2,none⟩=some (.pointer (some ⟨X.hp,0,none⟩))/\X.mm < wx.heap.size)/\wx.cell? ⟨w4.heap.size,1,none⟩=some (.int .i64 sn)/\w4.heap.size < wx.heap.size/\wx.cell? ⟨w.heap.size,2,none⟩=some (.int .i64 (j:Int))/\w.heap.size < wx.heap.size):=fun wx hx=>by
   have e1:=zaa (zad Hb5.o (hw6.trans hx))
   have e2:=zb9 (zad Hb6.o (hw6.trans hx))
   have hb1:=HJ3.o.1.box.kp (hk6.trans hx) (by simp)
   exact⟨hb1.heap,e1.2.1,e1.2.2.2.2,e2.2.2.1,e2.2.2.2⟩
  have Hk6:=zh hk6
  clear hk6 hw6 i2 i3
  go_upto_region 18 with fail
  generalize w4.heap.size=b4 at *
  refine zan 10 (C:=fun wx=>Kp [] w6 wx) (by kernel_rfl) ?_
  refine qT 0 rfl ?_
  apply xI
  (intro wx hwx;go_simp <;> rfl)
  refine qT 1 rfl ?_
  apply xI
  (intro wx hwx;go_simp <;> rfl)
  refine qT 2 rfl ?_
  apply xI
  (intro wx hwx;go_simp <;> rfl)
  refine qT 3 rfl ?_
  apply xI
  (intro wx hwx;obtain⟨⟨f0,f1⟩,f2,f3,f4,f5⟩:=HF6.o wx hwx;go_simp <;> rfl)
  refine qT 4 rfl ?_
  apply xI
  (intro wx hwx;go_simp <;> rfl)
  refine qT 5 rfl ?_
  apply xI
  (intro wx hwx;obtain⟨⟨f0,f1⟩,f2,f3,f4,f5⟩:=HF6.o wx hwx;go_simp <;> rfl)
  refine qT 6 rfl ?_
  apply xI
  (intro wx hwx;go_simp <;> rfl)
  refine qT 7 rfl ?_
  apply xI
  (intro wx hwx;obtain⟨⟨f0,f1⟩,f2,f3,f4,f5⟩:=HF6.o wx hwx;go_simp <;> rfl)
  refine qT 8 rfl ?_
  apply xI
  (intro wx hwx;go_simp <;> rfl)
  refine oL 9 (Kp.refl [] w6).drew rfl (fun K hK=>?_)
  go_simp
  refine cM (HT6.o _ (Kp.refl [] w6).drew) ?_
  rintro e7 w7 ⟨rfl,hw7⟩
  refine hK _ _ ?_
  clear hK K
  refine oL 10 hw7 rfl (fun K hK=>?_)
  go_simp
  refine cM (HSet.o w7 (Hk6.o.trans hw7)) ?_
  rintro e8 w8 ⟨rfl,ts8,hJ8,hm8⟩
  have HJS:=zh hJ8
  have HMv:Hid (_/\_):=⟨(HJ3.o.2.1.trans (Mv.zk (Hk6.o.trans hw7))).trans hm8,HX.o.1⟩
  have Hlen:=zh Hle.o
  refine hK _ _ ?_
  clear hK K hJ8 hm8 hw7
  refine zas (by kernel_rfl) (by kernel_rfl) ?_
  go_simp
  have HD:Hid _:=zba HJS.o 1 Hlen.o
  go_wp2_with fail
  refine cM HD.o ?_
  rintro e w10 ⟨rfl,g10,hp10⟩
  have Q:Hid (zD X w g M (.returned (.int .i64 0)) w10):=by
   unfold Hid
   rw[<-HM2.o]
   exact zD.of 0 rfl (g':=g10) (R':=R) (hp10.j.k0c HMv.o.2) (HMv.o.1.trans hp10.mv)
  clear hp10
  go_wp2_with fail
  exact bR (by simp[results,Tryz.results27,go_sem]) Q.o
theorem zwk(h:J X w g m R)(E:Env X)(hk0:m.kind=0)(hn:0 < m.s.cA.length)(hvb:m.s.cur.vb<=m.s.vA.length)(op a b:Int)(tk:Nat)(htp:zT X.cd.funs ⟨op,a,b⟩=(tk:Int))(hop:0<=op/\op<=25)(h13:op=13->0<=a/\a < X.cd.funs.length)(h12:op=12->0<=a/\a < 15)(hne:¬ (op=6\/op=25\/op=14\/op=18\/op=19\/op=20\/op=21\/op=15\/op=16\/op=17\/op=22))(hV:∀ wx,J X wx g m R->tk<=m.s.has->Calls Tryz.prog 58 #[.pointer (some ⟨X.mm,0,none⟩),.agg #[.int .i64 op,.int .i64 a,.int .i64 b]] wx fun e w'=>zP X wx g m (zW X.cd m.D m.s ⟨op,a,b⟩) e w')(hnx:m.next+1<=1000000000)(hvl9:m.s.vA.length+1<=1000000000)(hz:m.s.cur.vb+tk<=m.s.vA.length->RzOk (m.s.drop tk)):Calls Tryz.prog 27 #[.pointer (some ⟨X.mm,0,none⟩),.agg #[.int .i64 op,.int .i64 a,.int .i64 b]] w fun e w'=>zD X w g (AM.doT (room X.cells) X.cd m ⟨op,a,b⟩ tk) e w':=by
 obtain⟨w1,hw1,HB,HJ,HTk,HHs,HF,HK0,HX⟩:=preDW h E hk0 hn hvb op a b htp (hop:=hop) (h13:=h13) (h12:=h12)
 have HE:=zh E
 generalize hM:AM.doT (room X.cells) X.cd m ⟨op,a,b⟩ tk=M
 have HM:=zh hM
 have Htp:=zh htp
 have n6:(op == 6)=false:=by simp;omega
 have n25:(op == 25)=false:=by simp;omega
 have n14:(op == 14)=false:=by simp;omega
 have n18:(op == 18)=false:=by simp;omega
 have n19:(op == 19)=false:=by simp;omega
 have n20:(op == 20)=false:=by simp;omega
 have n21:(op == 21)=false:=by simp;omega
 have n15:(op == 15)=false:=by simp;omega
 have n16:(op == 16)=false:=by simp;omega
 have n17:(op == 17)=false:=by simp;omega
 have n22:(op == 22)=false:=by simp;omega
 have HY:Hid ((∀ wx,J X wx g m R->tk<=m.s.has->_)/\_/\_/\_):=⟨hV,hnx,hvl9,hz⟩
 have Hne:=zh hne
 clear hV hnx hvl9 hz hop h13 h12 hne
 clear hM h E hk0 hn hvb htp
 go_enter Tryz.func27,Tryz.ntmps27
 go_upto_region 1 with fail
 rw[<-hw1.out]
 refine rQ HK0.o (fun ops Hops=>?_)
 repeat
  (refine wQ ?_;apply xI;(·intro wx hwx;obtain⟨x0,x1,x2,x3,x4,x5,x6⟩:=HF.o wx hwx;go_simp <;> first | with_reducible rfl | with_reducible exact⟨rfl,rfl⟩ | exact HTk.o _ hwx);try go_simp)
 refine wpQuiet_nil ?_
 clear Hops ops
 intro w2 hw2
 have H2:Hid _:=HHs.o w2 hw2
 clear hw2
 go_wp2_with fail
 refine cM H2.o ?_
 rintro e w3 ⟨rfl,hw3⟩
 by_cases hlt:m.s.has < tk
 ·have hltI:((m.s.has:Nat):Int) < ((tk:Nat):Int):=by omega
  have Q:Hid (zD X w g M (.returned (.int .i64 4)) w3):=by
   unfold Hid
   rw[<-HM.o]
   unfold AM.doT
   rw[Htp.o,if_pos hltI]
   exact zD.of 4 rfl (g':=g) (R':=R) ((HJ.o.kp hw3).k0c HX.o.1) (HB.o.1.trans (Mv.zk hw3))
  clear hw3 hlt
  go_wp2_with fail
  exact bR (by simp[results,Tryz.results27,go_sem]) Q.o
 have hltI:¬ (((m.s.has:Nat):Int) < ((tk:Nat):Int)):=by omega
 have HM2:Hid ((AM.act (room X.cells) X.cd m (zW X.cd m.D m.s ⟨op,a,b⟩) tk (fun m v=>{m with s:=(m.s.drop tk).put v,kind:=0}):AM)=M):=by
  unfold Hid
  rw[<-HM.o]
  unfold AM.doT
  rw[Htp.o,if_neg hltI]
  simp only
  have hne:=Hne.o
  rw[if_neg (by omega),if_neg (by omega),if_neg (by omega),if_neg (by omega),if_neg (by omega),if_neg (by omega),if_neg (by omega),if_neg (by omega),if_neg (by omega),if_neg (by omega)]
 have hle:tk<=m.s.vA.length:=by
  unfold St.has at hlt
  omega
 have Hle2:Hid (m.s.cur.vb+tk<=m.s.vA.length/\tk<=m.s.has):=by
  have:=HX.o.2.2.1
  unfold Hid
  refine⟨?_,by omega⟩
  unfold St.has at hlt
  omega
 have Hle:=zh hle
 have hk3:=hw3
 obtain⟨x0,x1,x2,x3,x4,x5,x6⟩:=HF.o w3 hw3
 have HJ3:Hid (_/\_/\_):=⟨HJ.o.kp hw3,HB.o.1.trans (Mv.zk hw3),hw3⟩
 clear hw3 hlt hle
 have HVl:=zh (HY.o.1 w3 HJ3.o.1 Hle2.o.2)
 clear hk3
 go_wp2_with fail
 refine cM HVl.o ?_
 clear n6 n25 n14 n18 n19 n20 n21 n15 n16 n17 n22 x0 x1 x2 x3 x4 x5 x6
 intro e9 w9 q
 have Hmv:=zh HJ3.o.2.1
 cases q with
 | fail f m' hf w9 g9 R9 hJ9 hm9=>
  have HQ:Hid (_/\J X (w9.alloc (.cells #[.bool false,.int .i64 0] 67)) g9 m' R9/\Mv X w g (w9.alloc (.cells #[.bool false,.int .i64 0] 67)) g9):=⟨hf,hJ9.kp kA,Hmv.o.trans (hm9.trans (Mv.zk kA))⟩
  clear hf hJ9 hm9
  have hf0:=HQ.o.1.ne
  have HFl:Hid _:=zfx HQ.o.1 HQ.o.2.1 HX.o.1 HE.o.ex HE.o.tx HX.o.2.1 HY.o.2.1 tk Hle.o (HY.o.2.2.2 Hle2.o.1) (fun m v=>{m with s:=(m.s.drop tk).put v,kind:=0})
  rw[HM2.o] at HFl
  have HV:=zh HQ.o.2.2
  go_wp2_with fail
  refine cM HFl.o ?_
  intro e w10 q0
  have q:=q0.from HV.o
  clear q0
  cases q with
  | mk w10 g10 R10 hJ10 hm10=>
   have Q:Hid (zD X w g M (.returned (.int .i64 M.kind)) w10):=.mk w10 g10 R10 hJ10 hm10
   clear hJ10 hm10
   generalize M.kind=kd at *
   go_wp2_with fail
   exact bR (by simp[results,Tryz.results27,go_sem]) Q.o
 | val p9 v m' hv w9 g9 R9 hJ9 hp hw hm9=>
  obtain⟨pp9,pn9⟩:=p9
  simp only
  have HQ:Hid (_/\J X (w9.alloc (.cells #[.bool pp9,.int .i64 pn9] 67)) g9 m' R9/\_/\_/\Mv X w g (w9.alloc (.cells #[.bool pp9,.int .i64 pn9] 67)) g9/\(w9.alloc (.cells #[.bool pp9,.int .i64 pn9] 67)).heap[w9.heap.size]? = some (.cells #[.bool pp9,.int .i64 pn9] 67)/\Off X (w9.alloc (.cells #[.bool pp9,.int .i64 pn9] 67)) g9 w9.heap.size):=⟨hv,hJ9.kp kA,hp,hw,Hmv.o.trans (hm9.trans (Mv.zk kA)),zab _ _,hJ9.off (Nat.le_refl _) (by simp)⟩
  clear hv hJ9 hp hw hm9
  obtain⟨hs1,hs2⟩:=HQ.o.1.s
  have HMv:Hid (({m' with s:=(m'.s.drop tk).put v,kind:=0} : AM)=M):=by
   unfold Hid
   rw[<-HM2.o,HQ.o.1.act]
  have hk9:m'.kind=0:=by rw[hs2];exact HX.o.1
  have HD:Hid _:=zba HQ.o.2.1 tk (by rw[hs1];exact Hle.o)
  go_wp2_with fail
  refine cM HD.o ?_
  rintro e w10 ⟨rfl,g10,hp10⟩
  obtain⟨-,hkb⟩:=HQ.o.2.2.2.2.2.2.mv hp10.mv
  obtain⟨f0,f1,-,-,f2⟩:=zaa (hkb.trans HQ.o.2.2.2.2.2.1)
  have HP:Hid _:=zgl hp10.j ⟨pp9,pn9⟩ v HQ.o.2.2.1 HQ.o.2.2.2.1 (by
   have h8:=HY.o.2.2.1
   show(m'.s.drop tk).vA.length+1<=_
   unfold St.drop
   simp only[List.length_take]
   rw[hs1]
   omega)
  simp only at HP
  have HV:Hid (_/\_):=⟨HQ.o.2.2.2.2.1.trans hp10.mv,hk9⟩
  clear hs1 hs2 hk9 hp10 hkb
  go_wp2_with fail
  refine cM HP.o ?_
  rintro e w11 ⟨rfl,g11,hp11⟩
  have Q:Hid (zD X w g M (.returned (.int .i64 0)) w11):=by
   unfold Hid
   rw[<-HMv.o]
   exact zD.of 0 rfl (g':=g11) (R':=R9) (hp11.j.k0c HV.o.2) (HV.o.1.trans hp11.mv)
  clear hp11 f0 f1 f2
  go_wp2_with fail
  exact bR (by simp[results,Tryz.results27,go_sem]) Q.o
theorem zxt{T:Nat->Nat->Nat}{k p:Nat}(h:J X w g m R)(E:Env X)(hc:CdOk X.cd T)(hm:Mid X.cd T k m p)(htv:TvOk k m.s)(hk0:m.kind=0)(hk9:k+2<=1000000000)(hnx:m.next<=k){x:In}(hx:InOk X.cd (fnAt X.cd m.s.cur.num) (T m.s.cur.num.toNat) p x):Calls Tryz.prog 27 #[.pointer (some ⟨X.mm,0,none⟩),.agg #[.int .i64 x.op,.int .i64 x.a,.int .i64 x.b]] w fun e w'=>zD X w g (AM.doI (room X.cells) X.cd m x) e w':=by
 have hn:0 < m.s.cA.length:=by rw[hm.eq];simp
 have hvb:=hm.cu.vb
 have hsb:=hm.cu.sb.1
 have htb:m.s.cur.tb<=m.s.tA.length:=by
  have:=hm.cu.tb
  simp only at this
  omega
 have hsl:=hm.ch.sA
 have hcl:=hm.cl
 have hsb9:m.s.cur.sb<=33000000:=by
  rw[List.length_dropLast] at hsl
  omega
 have hvl:=hm.vl
 have htl:=hm.tl
 have hrz:∀ n,m.s.cur.vb+n<=m.s.vA.length->RzOk (m.s.drop n):=fun n hn=>hm.rzd (by omega) htv hn
 have htg:thK m.D (m.s.top 1) 1=true->0<=tagA m.D (m.s.top 1).n/\tagA m.D (m.s.top 1).n < 60012:=fun e=>by
  obtain⟨_,t,h2,h3⟩:=zat e
  have h4:=(hm.d _ _ h2).f h3
  have h5:=hc.nf
  unfold tagA
  rw[h2]
  simp only[Option.getD_some]
  omega
 have hnx1:m.next+1<=1000000000:=by omega
 have hvl9:m.s.vA.length+1<=1000000000:=by omega
 have htl9:m.s.tA.length+1<=1000000000:=by omega
 have hslots:m.s.sA.length<=1000000000:=by
  have:=hm.cu.sb
  simp only at this
  omega
 have hopr:=hx.op
 have htk:=hx.takes
 clear hsl hcl hvl htl
 by_cases hne:¬ (x.op=6\/x.op=25\/x.op=14\/x.op=18\/x.op=19\/x.op=20\/x.op=21\/x.op=15\/x.op=16\/x.op=17\/x.op=22)
 ·have hV:∀ wx,J X wx g m R->(zT X.cd.funs x).toNat<=m.s.has->Calls Tryz.prog 58 #[.pointer (some ⟨X.mm,0,none⟩),.agg #[.int .i64 x.op,.int .i64 x.a,.int .i64 x.b]] wx fun e w'=>zP X wx g m (zW X.cd m.D m.s x) e w':=fun wx hJ hle=>zox hJ E hc hm hnx1 hslots hx (by omega) hne
  have h13:x.op=13->0<=x.a/\x.a < X.cd.funs.length:=fun e=>by
   have:=hx.mak e
   omega
  exact zwk h E hk0 hn hvb x.op x.a x.b (zT X.cd.funs x).toNat (show zT X.cd.funs x=_ by omega) hopr h13 hx.sig hne hV hnx1 hvl9 (hrz _)
 ·have hcs:=Decidable.not_not.1 hne
  clear hne hopr htk
  obtain⟨op,a,b⟩:=x
  simp only at hcs
  simp only
  unfold AM.doI
  rcases hcs with rfl | rfl | rfl | rfl | rfl | rfl | rfl | rfl | rfl | rfl | rfl
  ·obtain⟨h1,h2⟩:=hx.slo (Or.inr (Or.inl rfl))
   simp only at h1 h2
   obtain⟨i,rfl⟩:∃ i:Nat,a=(i:Int):=⟨a.toNat,by omega⟩
   rw[show(zT X.cd.funs ⟨6,(i:Int),b⟩).toNat=1 from by simp[zT]]
   exact zwl h E hk0 hn hvb i b (by omega)
  ·rw[show(zT X.cd.funs ⟨25,a,b⟩).toNat=1 from by simp[zT]]
   exact zt7 h E hk0 hn hvb a b
  ·obtain⟨h1,h2⟩:=hx.slo (Or.inr (Or.inr rfl))
   obtain⟨h3,h4⟩:=hx.pat rfl
   simp only at h1 h2 h3 h4
   obtain⟨i,rfl⟩:∃ i:Nat,a=(i:Int):=⟨a.toNat,by omega⟩
   obtain⟨j,rfl⟩:∃ j:Nat,b=(j:Int):=⟨b.toNat,by omega⟩
   rw[show(zT X.cd.funs ⟨14,(i:Int),(j:Int)⟩).toNat=1 from by simp[zT]]
   exact zug h E hk0 hn hvb i j (by omega) (by omega)
  ·obtain⟨h1,h2,h3,-⟩:=hx.jump (Or.inl rfl)
   simp only at h1 h2
   obtain⟨i,rfl⟩:∃ i:Nat,a=(i:Int):=⟨a.toNat,by omega⟩
   rw[show(zT X.cd.funs ⟨18,(i:Int),b⟩).toNat=0 from by simp[zT]]
   exact zuc h E hk0 hn hvb i b
  ·obtain⟨h1,h2,h3,-⟩:=hx.jump (Or.inr (Or.inl rfl))
   simp only at h1 h2
   obtain⟨i,rfl⟩:∃ i:Nat,a=(i:Int):=⟨a.toNat,by omega⟩
   rw[show(zT X.cd.funs ⟨19,(i:Int),b⟩).toNat=1 from by simp[zT]]
   exact zub h E hk0 hn hvb i b
  ·obtain⟨h1,h2,h3,-⟩:=hx.jump (Or.inr (Or.inr rfl))
   simp only at h1 h2
   obtain⟨i,rfl⟩:∃ i:Nat,a=(i:Int):=⟨a.toNat,by omega⟩
   rw[show(zT X.cd.funs ⟨20,(i:Int),b⟩).toNat=0 from by simp[zT]]
   exact zua h E hk0 hn hvb i b htl9
  ·have h1:=hx.back rfl
   have h2:=hm.cu.tb
   simp only at h2
   rw[show(zT X.cd.funs ⟨21,a,b⟩).toNat=0 from by simp[zT]]
   exact zt9 h E hk0 hn hvb a b (by omega) (by omega)
  ·rw[show(zT X.cd.funs ⟨15,a,b⟩).toNat=2 from by simp[zT]]
   exact zuf h E hk0 hn hvb a b hm.d hnx1 hvl9 hsb htb htg (zd5 hm.va 0) (hrz 2)
  ·rw[show(zT X.cd.funs ⟨16,a,b⟩).toNat=2 from by simp[zT]]
   exact zue h E hk0 hn hvb a b hm.d hnx1 hvl9 hsb htb htg (zd5 hm.va 0) (hrz 2)
  ·rw[show(zT X.cd.funs ⟨17,a,b⟩).toNat=1 from by simp[zT]]
   exact zud h E hk0 hn hvb a b hvl9 hsb htb
  ·rw[show(zT X.cd.funs ⟨22,a,b⟩).toNat=1 from by simp[zT]]
   exact zt8 h E hk0 hn hvb a b (hrz 1) hm.d
section
variable{ok:Room}{c:Cd}
theorem zgk(m:AM)(v:Cl):(AM.raise c m v).steps=m.steps:=by
 unfold AM.raise
 split <;> rfl
theorem zof(m:AM)(e:Int)(n:Nat):(AM.fail ok c m e n).steps=m.steps:=by
 unfold AM.fail
 split
 ·rw[zgk]
  rfl
 ·rfl
theorem zkg(m:AM)(a:Act1)(n:Nat)(f:AM->Cl->AM)(hf:∀ m' v,(f m' v).steps=m'.steps):(AM.act ok c m a n f).steps=m.steps:=by
 unfold AM.act
 split
 ·rfl
 ·exact zof _ _ _
 ·exact hf _ _
 ·rw[hf]
 ·split
  ·rw[hf]
   rfl
  ·rfl
 ·rw[hf]
theorem zgw(m:AM)(v:Cl):(m.giveS v).steps=m.steps:=by
 unfold AM.giveS
 split <;> rfl
theorem zon(m:AM)(b:Bool):(AM.call ok c m b).steps=m.steps:=by
 unfold AM.call
 split
 ·split
  ·split
   ·rfl
   ·refine zkg _ _ _ _ (fun m' v=>?_)
    split
    ·exact zgw _ _
    ·rfl
  ·split
   ·rfl
   ·split <;> rfl
 ·rfl
theorem zrh(m:AM)(x:In)(n:Nat):(AM.doT ok c m x n).steps=m.steps:=by
 have ite_st:∀ (q:Prop) [Decidable q] (a b:AM),a.steps=m.steps->b.steps=m.steps->(if q then a else b).steps=m.steps:=fun q _ a b h1 h2=>by
  split
  ·exact h1
  ·exact h2
 unfold AM.doT
 refine ite_st _ _ _ rfl (ite_st _ _ _ rfl (ite_st _ _ _ rfl (ite_st _ _ _ (ite_st _ _ _ rfl rfl) (ite_st _ _ _ rfl (ite_st _ _ _ (ite_st _ _ _ rfl rfl) (ite_st _ _ _ rfl (ite_st _ _ _ rfl (ite_st _ _ _ (zon _ _) (ite_st _ _ _ (zgw _ _) (ite_st _ _ _ (ite_st _ _ _ ?_ rfl) ?_))))))))))
 ·rw[zgk]
 ·exact zkg _ _ _ _ (fun _ _=>rfl)
end
theorem Env.insAt(E:Env X){num pc:Nat}{f:C12.Fn}{x:In}(hf:X.cd.funs[num]? = some f)(hx:f.ins[pc]? = some x):∃ fb fo ib io cap,X.pf=some ⟨fb,fo,none⟩/\fb < X.wc.heap.size/\X.wc.cell? ⟨fb,fo+num * 3+2,none⟩=some (.slice (some ⟨ib,io,none⟩) f.ins.length cap)/\ib < X.wc.heap.size/\X.wc.cell? ⟨ib,io+pc * 3,none⟩=some (.int .i64 x.op)/\X.wc.cell? ⟨ib,io+pc * 3+1,none⟩=some (.int .i64 x.a)/\X.wc.cell? ⟨ib,io+pc * 3+2,none⟩=some (.int .i64 x.b):=by
 obtain⟨hi,hfe⟩:=List.getElem?_eq_some_iff.1 hf
 obtain⟨hp,hxe⟩:=List.getElem?_eq_some_iff.1 hx
 obtain⟨fb,fo,q,cap,h1,h2,h3,h4⟩:=E.fu.get num hi
 rw[hfe] at h3 h4
 obtain⟨ib,io,h5,h6,h7,h8,h9⟩:=h4.get pc hp
 rw[hxe] at h7 h8 h9
 refine⟨fb,fo,ib,io,cap,h1,h2,?_,h6,h7,h8,h9⟩
 have:=h3.c2
 rw[h5] at this
 exact this
theorem zh6{T:Nat->Nat->Nat}{k:Nat}(h:J X w g m R)(E:Env X)(hc:CdOk X.cd T)(hi:Inv X.cd T k m)(htv:TvOk k m.s)(hgo:m.goes)(hk9:k+2<=1000000000):Calls Tryz.prog 19 #[.pointer (some ⟨X.mm,0,none⟩)] w fun e w'=>e=.returned (.tuple #[])/\∃ g' R',J X w' g' (AM.step (room X.cells) X.cd m) R'/\Mv X w g w' g':=by
 obtain⟨hk0,hn0⟩:=hgo
 have hn:0 < m.s.cA.length:=by omega
 have hcl:=h.clen
 have hcu:=h.cur hn
 obtain⟨gc,cap,hvc,hcur⟩:=h.curAt (by omega)
 have HN:Hid (∀ wx,Kp [] w wx->_):=zbw h (by omega) (fun wx hx=>(hcur wx hx).1)
 obtain⟨-,hcal,-⟩:=hi.cur hn0
 have hnum:=hcal.num
 have hpc0:=hcal.pc
 have hx0:=hi.ins hc hn0
 have hmid:=hi.mid hn0
 obtain⟨nn,hnn⟩:∃ nn:Nat,m.s.cur.num=(nn:Int):=⟨m.s.cur.num.toNat,by omega⟩
 have hfl:nn < X.cd.funs.length:=by omega
 have hf:X.cd.funs[nn]? = some (X.cd.funs[nn]'hfl):=gE hfl
 have hfe:fnAt X.cd m.s.cur.num=X.cd.funs[nn]'hfl:=by
  unfold fnAt
  rw[hnn,Int.toNat_natCast,hf]
  rfl
 have hpc:m.s.cur.pc < (X.cd.funs[nn]'hfl).ins.length:=by
  rw[<-hfe]
  exact hpc0
 have hxg:(X.cd.funs[nn]'hfl).ins[m.s.cur.pc]? = some ((X.cd.funs[nn]'hfl).ins[m.s.cur.pc]'hpc):=gE hpc
 have hxe:m.ins X.cd=(X.cd.funs[nn]'hfl).ins[m.s.cur.pc]'hpc:=by
  unfold AM.ins
  rw[hnn,Int.toNat_natCast,hf,Option.getD_some,hxg]
  rfl
 obtain⟨fb,fo,ib,io,icap,hpf,hfb,c2,hib,i0,i1,i2⟩:=E.insAt hf hxg
 rw[<-hxe] at i0 i1 i2
 have hflen:=(hc.fn nn hfl).len
 have hfn6:=hc.nf
 obtain⟨nf,hnf⟩:∃ nf,nf=(X.cd.funs[nn]'hfl).ins.length:=⟨_,rfl⟩
 rw[<-hnf] at c2 hflen
 have hpc9:m.s.cur.pc < nf:=by
  rw[hnf]
  exact hpc
 have HF:Hid (∀ wx,Kp [] w wx->wx.cell? ⟨X.mm,1,none⟩=some (.slice (some ⟨fb,fo,none⟩) X.cd.funs.length X.cf)/\X.mm < wx.heap.size/\wx.cell? ⟨gc,(g.s.cA.length - 1) * 9,none⟩=some (.int .i64 (nn:Int))/\wx.cell? ⟨gc,(g.s.cA.length - 1) * 9+5,none⟩=some (.int .i64 (m.s.cur.pc:Nat))/\gc < wx.heap.size/\wx.cell? ⟨fb,fo+nn * 3+2,none⟩=some (.slice (some ⟨ib,io,none⟩) nf icap)/\fb < wx.heap.size/\wx.cell? ⟨ib,io+m.s.cur.pc * 3,none⟩=some (.int .i64 (m.ins X.cd).op)/\wx.cell? ⟨ib,io+m.s.cur.pc * 3+1,none⟩=some (.int .i64 (m.ins X.cd).a)/\wx.cell? ⟨ib,io+m.s.cur.pc * 3+2,none⟩=some (.int .i64 (m.ins X.cd).b)/\ib < wx.heap.size):=fun wx hx=>by
  have hb:=(h.kp hx).bl
  have hcc:=hcur wx hx
  have e0:=hcc.2.1 0 (by omega)
  have e5:=hcc.2.1 5 (by omega)
  have hbx:=(h.kp hx).box.code
  refine⟨by rw[<-hpf];exact hbx.2.1,hbx.2.2,?_,?_,hcc.2.2,(hb.cell (p:=⟨fb,fo+nn * 3+2,none⟩) hfb).trans c2,lL hfb hb.size,(hb.cell (p:=⟨ib,io+m.s.cur.pc * 3,none⟩) hib).trans i0,(hb.cell (p:=⟨ib,io+m.s.cur.pc * 3+1,none⟩) hib).trans i1,(hb.cell (p:=⟨ib,io+m.s.cur.pc * 3+2,none⟩) hib).trans i2,lL hib hb.size⟩
  ·rw[<-hnn,<-hcu.num]
   exact e0
  ·rw[<-hcu.pc]
   exact e5
 have HS:Hid (∀ wx,Kp [] w wx->J X (wx.setCell ⟨gc,(g.s.cA.length - 1) * 9+5,none⟩ (.int .i64 ((m.s.cur.pc+1:Nat):Int))) (g.setC g.vc (g.s.goto (m.s.cur.pc+1)).cA) {m with s:=m.s.goto (m.s.cur.pc+1)} R/\Mv X wx g (wx.setCell ⟨gc,(g.s.cA.length - 1) * 9+5,none⟩ (.int .i64 ((m.s.cur.pc+1:Nat):Int))) (g.setC g.vc (g.s.goto (m.s.cur.pc+1)).cA)/\wx.frozen? ⟨gc,(g.s.cA.length - 1) * 9+5,none⟩=false/\gc < w.heap.size):=fun wx hx=>by
  have h5:=(h.kp hx).setPc hn hvc (m.s.cur.pc+1)
  have hob:g.vc.ownBlock=some gc:=by rw[hvc];rfl
  obtain⟨_,cur,hh⟩:=(h.kp hx).tc gc hob
  refine⟨h5.1,h5.2,?_,(h.tc gc hob).1⟩
  simp only[World.frozen?,hh]
  rfl
 have HD:Hid (∀ wx g1,J X wx g1 {m with s:=m.s.goto (m.s.cur.pc+1)} R->Calls Tryz.prog 27 #[.pointer (some ⟨X.mm,0,none⟩),.agg #[.int .i64 (m.ins X.cd).op,.int .i64 (m.ins X.cd).a,.int .i64 (m.ins X.cd).b]] wx fun e w'=>zD X wx g1 (AM.doI (room X.cells) X.cd {m with s:=m.s.goto (m.s.cur.pc+1)} (m.ins X.cd)) e w'):=fun wx g1 hJ=>by
  have hcg:(m.s.goto (m.s.cur.pc+1)).cur={m.s.cur with pc:=m.s.cur.pc+1}:=zfi _ _
  exact zxt hJ E hc hmid (TvOk.same htv rfl) hk0 hk9 hi.nx.2 (x:=m.ins X.cd) (by simp only;rw[hcg];exact hx0)
 have hst:=hi.st
 have hwp:IntKind.i64.wrap ((m.s.cur.pc:Int)+1)=((m.s.cur.pc+1:Nat):Int):=by
  rw[IntKind.wrap_i64]
  omega
 have hnnI:(nn:Int) < (X.cd.funs.length:Int):=by omega
 have hpcI:(m.s.cur.pc:Int) < (nf:Int):=by omega
 have HX:Hid (_/\_/\m.steps<=1000000000):=⟨h,hk0,by omega⟩
 have Hst2:Hid ((AM.doI (room X.cells) X.cd {m with s:=m.s.goto (m.s.cur.pc+1)} (m.ins X.cd)).steps<=1000000000):=by
  unfold Hid AM.doI
  rw[zrh]
  simp only
  omega
 have HStep:Hid (AM.step (room X.cells) X.cd m=AM.tick (AM.doI (room X.cells) X.cd {m with s:=m.s.goto (m.s.cur.pc+1)} (m.ins X.cd))):=rfl
 generalize AM.step (room X.cells) X.cd m=M at *
 clear h E hc hi htv hk0 hn0 hn hk9 hcl hcu hvc hcur hcal hnum hpc hpc0 hpc9 hx0 hmid hnn hfl hf hfe hxg hxe hpf hfb c2 hib i0 i1 i2 hflen hfn6 hnf hst
 generalize hP:AM.doI (room X.cells) X.cd {m with s:=m.s.goto (m.s.cur.pc+1)} (m.ins X.cd)=m2 at *
 clear hP
 generalize m.ins X.cd=x at *
 generalize m.s.cur.pc=pc at *
 generalize hP1:pc+1=pc1 at *
 clear hP1
 generalize (g.s.cA.length - 1) * 9=oo at *
 generalize X.cd.funs.length=nfs at *
 go_enter Tryz.func19,Tryz.ntmps19
 go_wp2_with fail
 refine cM (HN.o w kr) ?_
 rintro e w1 ⟨rfl,hw1⟩
 have Hw1:Hid (_/\_):=⟨hw1.drew,hw1⟩
 clear hw1
 go_upto_region 1 with fail
 refine zao (C:=fun wx=>Kp [] w wx) (by kernel_rfl) ?_
 refine qA 0 rfl ?_
 apply xI
 (intro wx hwx;go_simp <;> rfl)
 refine qA 1 rfl ?_
 apply xI
 (intro wx hwx;go_simp <;> rfl)
 refine qA 2 rfl ?_
 apply xI
 (intro wx hwx;go_simp <;> rfl)
 refine qA 3 rfl ?_
 apply xI
 (intro wx hwx;go_simp <;> rfl)
 refine qA 4 rfl ?_
 apply xI
 (intro wx hwx;obtain⟨f0,f1,f2,f3,f4,f5,f6,f7,f8,f9,f10⟩:=HF.o wx hwx;go_simp <;> rfl)
 refine qA 5 rfl ?_
 apply xI
 (intro wx hwx;go_simp <;> rfl)
 refine qA 6 rfl ?_
 apply xI
 (intro wx hwx;go_simp <;> rfl)
 refine qA 7 rfl ?_
 apply xI
 (intro wx hwx;go_simp <;> rfl)
 refine qA 8 rfl ?_
 apply xI
 (intro wx hwx;obtain⟨f0,f1,f2,f3,f4,f5,f6,f7,f8,f9,f10⟩:=HF.o wx hwx;go_simp <;> rfl)
 refine qA 9 rfl ?_
 apply xI
 (intro wx hwx;go_simp <;> rfl)
 refine qA 10 rfl ?_
 apply xI
 (intro wx hwx;go_simp <;> rfl)
 refine qA 11 rfl ?_
 apply xI
 (intro wx hwx;obtain⟨f0,f1,f2,f3,f4,f5,f6,f7,f8,f9,f10⟩:=HF.o wx hwx;go_simp <;> rfl)
 refine qA 12 rfl ?_
 apply xI
 (intro wx hwx;go_simp <;> rfl)
 refine qA 13 rfl ?_
 apply xI
 (intro wx hwx;go_simp <;> rfl)
 refine qA 14 rfl ?_
 apply xI
 (intro wx hwx;go_simp <;> rfl)
 refine qA 15 rfl ?_
 apply xI
 (intro wx hwx;obtain⟨f0,f1,f2,f3,f4,f5,f6,f7,f8,f9,f10⟩:=HF.o wx hwx;go_simp <;> rfl)
 refine qA 16 rfl ?_
 apply xI
 (intro wx hwx;go_simp <;> rfl)
 refine qA 17 rfl ?_
 apply xI
 (intro wx hwx;obtain⟨f0,f1,f2,f3,f4,f5,f6,f7,f8,f9,f10⟩:=HF.o wx hwx;go_simp <;> rfl)
 refine oA 18 Hw1.o.1 rfl (fun K hK=>?_)
 go_simp
 refine hK _ _ ?_
 clear hK K
 refine oA 19 (Hw1.o.1.trans kA) rfl (fun K hK=>?_)
 go_simp
 refine hK _ _ ?_
 clear hK K
 have Hk2:Hid (Kp [] w (w1.alloc (.cells #[.int .i64 x.op,.int .i64 x.a,.int .i64 x.b] 44)).drew):=(Hw1.o.2.trans kA).drew
 have Hb2:Hid ((w1.alloc (.cells #[.int .i64 x.op,.int .i64 x.a,.int .i64 x.b] 44)).drew.heap[w1.heap.size]? = some (.cells #[.int .i64 x.op,.int .i64 x.a,.int .i64 x.b] 44)):=zab w1 _
 have Hne:=zh Hw1.o.2.size
 have Hob:Hid (Off X (w1.alloc (.cells #[.int .i64 x.op,.int .i64 x.a,.int .i64 x.b] 44)).drew g w1.heap.size):=(HX.o.1.kp Hw1.o.2).off (Nat.le_refl _) (by simp[World.drew])
 refine zag Hk2.o (by kernel_rfl) ?_
 go_simp
 generalize (w1.alloc _).drew=w2 at *
 generalize w1.heap.size=b2 at *
 obtain⟨-,f1,-,f3,f4,-,-,-,-,-,-⟩:=HF.o w2 Hk2.o
 obtain⟨hJ3,hm3,z5,hgc⟩:=HS.o w2 Hk2.o
 have HJ3:Hid (_/\_):=⟨hJ3,(Mv.zk Hk2.o).trans hm3⟩
 have Hb3:Hid ((w2.setCell ⟨gc,oo+5,none⟩ (.int .i64 (pc1:Int))).heap[b2]? = some (.cells #[.int .i64 x.op,.int .i64 x.a,.int .i64 x.b] 44)):=by
  have hne:=Hne.o
  have hk:Kp [gc] w2 (w2.setCell ⟨gc,oo+5,none⟩ (.int .i64 (pc1:Int))):=Kp.setCell _ _ (by simp) _
  exact(hk.block b2 Hob.o.1 (by simp;omega)).trans Hb2.o
 clear hJ3 hm3 hgc hnnI hpcI
 go_upto_region 3 with fail
 clear f1 f3 f4 z5
 generalize w2.setCell _ _=w3 at *
 generalize g.setC g.vc (g.s.goto pc1).cA=g3 at *
 obtain⟨i0,i1,i2,i3⟩:=zb9 Hb3.o
 have H27:Hid _:=HD.o w3 g3 HJ3.o.1
 go_wp2_with fail
 refine cM H27.o ?_
 clear i0 i1 i2 i3
 intro e w4 q
 cases q with
 | mk w4 g4 R4 hJ4 hm4=>
  have z34:=hJ4.box.frozen 34
  have c34:=hJ4.box.tell.1
  have cl:=hJ4.box.lt
  have hk5:Kp [X.mm] w4 (w4.setCell ⟨X.mm,34,none⟩ (.int .i64 m2.kind)):=Kp.setCell _ _ (by simp) _
  have h5:=hJ4.tells m2.kind m2.name m2.steps (hJ4.box.setK m2.kind) hk5
  have HJ5:Hid (J X (w4.setCell ⟨X.mm,34,none⟩ (.int .i64 m2.kind)) g4 m2 R4/\_):=⟨h5.1,(HJ3.o.2.trans hm4).trans h5.2⟩
  clear hk5 h5 hJ4 hm4
  go_upto_region 4 with fail
  clear z34 c34 cl
  generalize w4.setCell _ _=w5 at *
  obtain⟨c34,-,-,c37,cl⟩:=HJ5.o.1.box.tell
  have z37:=HJ5.o.1.box.frozen 37
  have hsx:=Hst2.o
  have hws:IntKind.i64.wrap ((m2.steps:Int)+1)=((m2.steps+1:Nat):Int):=by
   rw[IntKind.wrap_i64]
   omega
  have e34:(mfOf X g4 m2).kind=m2.kind:=rfl
  have e37:(mfOf X g4 m2).steps=(m2.steps:Int):=rfl
  rw[e34] at c34
  rw[e37] at c37
  clear e34 e37
  by_cases h34:m2.kind=3\/m2.kind=4
  ·have HQ:Hid (∃ g' R',J X w5 g' M R'/\Mv X w g w5 g'):=by
    unfold Hid
    rw[HStep.o]
    unfold AM.tick
    rw[if_pos h34]
    exact⟨g4,R4,HJ5.o.1,HJ5.o.2⟩
   clear hsx
   rcases h34 with e | e
   ·rw[e] at c34
    clear e
    go_wp2_with fail
    exact bodyPost_end (v:=.tuple #[]) (results_none rfl _ _ _) rfl ⟨rfl,HQ.o⟩
   ·rw[e] at c34
    clear e
    go_wp2_with fail
    exact bodyPost_end (v:=.tuple #[]) (results_none rfl _ _ _) rfl ⟨rfl,HQ.o⟩
  ·have hk6:Kp [X.mm] w5 (w5.setCell ⟨X.mm,37,none⟩ (.int .i64 ((m2.steps+1:Nat):Int))):=Kp.setCell _ _ (by simp) _
   have h6:=HJ5.o.1.tells m2.kind m2.name (m2.steps+1) (HJ5.o.1.box.setI _) hk6
   have HQ:Hid (∃ g' R',J X (w5.setCell ⟨X.mm,37,none⟩ (.int .i64 ((m2.steps+1:Nat):Int))) g' M R'/\Mv X w g (w5.setCell ⟨X.mm,37,none⟩ (.int .i64 ((m2.steps+1:Nat):Int))) g'):=by
    unfold Hid
    rw[HStep.o]
    unfold AM.tick
    rw[if_neg h34]
    exact⟨g4,R4,h6.1,HJ5.o.2.trans h6.2⟩
   have h3:(m2.kind != 3)=true:=by simp;omega
   have h4:(m2.kind != 4)=true:=by simp;omega
   clear hk6 h6 hsx h34
   generalize ((m2.steps+1:Nat):Int)=st1 at *
   go_wp2_with fail
   exact bodyPost_end (v:=.tuple #[]) (results_none rfl _ _ _) rfl ⟨rfl,HQ.o⟩
end
section
variable{X:Fx}{w:World}{g:Pg}{m:AM}{R:Int->Int->Prop}
def GoOk(c:Cd)(T:Nat->Nat->Nat)(k:Nat)(m:AM):Prop:=m.goes->Inv c T k m/\TvOk k m.s
theorem GoOk.step{ok:Room}{c:Cd}{T:Nat->Nat->Nat}{k:Nat}{m:AM}(hc:CdOk c T)(h:Inv c T k m/\TvOk k m.s)(hg:m.goes):GoOk c T (k+1) (AM.step ok c m):=fun hg2=>⟨(zsk ok hc h.1 hg hg2.1).2,TvOk.mono (TvOk.step h.2 h.1.vl) (by omega)⟩
theorem GoOk.run{ok:Room}{c:Cd}{T:Nat->Nat->Nat}(hc:CdOk c T):∀ (n k:Nat) (m:AM),GoOk c T k m->GoOk c T (k+n) (AM.run ok c n m)
 | 0,_,_,h=>h
 | n+1,k,m,h=>by
  rw[AM.run]
  split
  ·rename_i hg
   have:=GoOk.run (ok:=ok) hc n (k+1) (AM.step ok c m) (GoOk.step hc (h hg) hg)
   rw[show k+(n+1)=k+1+n by omega]
   exact this
  ·rename_i hg
   exact fun h2=>absurd h2 hg
inductive GoPost(X:Fx)(w:World)(g:Pg)(m':AM):Ending->World->Prop
 | mk (v:Int) (w':World) (g':Pg) (R':Int->Int->Prop) (hJ:J X w' g' m' R') (hm:Mv X w g w' g'):GoPost X w g m' (.returned (.int .i64 v)) w'
theorem zxk{T:Nat->Nat->Nat}{k:Nat}(h:J X w g m R)(E:Env X)(hc:CdOk X.cd T)(hi:GoOk X.cd T k m)(hk9:k+1000002<=1000000000)(n:Int):Calls Tryz.prog 8 #[.pointer (some ⟨X.mm,0,none⟩),.int .i64 n] w fun e w'=>GoPost X w g (AM.run (room X.cells) X.cd (min n 1000000).toNat m) e w':=by
 obtain⟨-,-,-,c37,cl⟩:=h.box.tell
 obtain⟨N,hN⟩:∃ N,N=(min n 1000000).toNat:=⟨_,rfl⟩
 have hN6:N<=1000000:=by omega
 rw[<-hN]
 generalize hF:AM.run (room X.cells) X.cd N m=F
 have H0:Hid (∃ mi gi Ri,J X w gi mi Ri/\Mv X w g w gi/\AM.run (room X.cells) X.cd N mi=F/\GoOk X.cd T (k+0) mi):=⟨m,g,R,h,Mv.refl _ _ _,hF,hi⟩
 have HE:Hid (_/\_):=⟨E,hc⟩
 clear h E hc hi hF
 generalize hmn:min n 1000000=mn at *
 go_enter Tryz.func8,Tryz.ntmps8
 go_wp2_with fail
 clear c37 cl
 have HN:=zh hN
 clear hN hmn
 generalize (mfOf X g m).steps=st0 at *
 go_loopg [14] N (fun gm iv wr=>∃ i:Nat,iv=.int .i64 i/\i<=N/\gm=N - i/\Hid (∃ mi gi Ri,J X wr gi mi Ri/\Mv X w g wr gi/\AM.run (room X.cells) X.cd (N - i) mi=F/\GoOk X.cd T (k+i) mi))
 case atStart=>exact⟨0,rfl,by omega,by omega,H0.o⟩
 case round=>
  obtain⟨i,rfl,hi1,rfl,HQ⟩:=hrel
  obtain⟨mi,gi,Ri,hJ,hm,hr,hgo⟩:=HQ.o
  have hN:=HN.o
  by_cases hlt:i < N
  ·have hltI:(i:Int) < mn:=by omega
   have HG:Hid _:=ztz hJ wr kr
   by_cases hg:mi.goes
   ·rw[show decide (mi.kind=0/\mi.s.cA.length≠0)=true from decide_eq_true hg] at HG
    have HS:Hid (∀ wx,Kp [] wr wx->Calls Tryz.prog 19 #[.pointer (some ⟨X.mm,0,none⟩)] wx fun e w'=>e=.returned (.tuple #[])/\∃ g' R',J X w' g' (AM.step (room X.cells) X.cd mi) R'/\Mv X w g w' g'):=fun wx hx=>by
     refine cM (zh6 (hJ.kp hx) HE.o.1 HE.o.2 (hgo hg).1 (hgo hg).2 hg (by omega)) ?_
     rintro e w' ⟨rfl,g',R',h1,h2⟩
     exact⟨rfl,g',R',h1,(hm.trans (Mv.zk hx)).trans h2⟩
    have hwi:IntKind.i64.wrap ((i:Int)+1)=((i+1:Nat):Int):=by
     rw[IntKind.wrap_i64]
     omega
    have Hr:Hid (AM.run (room X.cells) X.cd (N - (i+1)) (AM.step (room X.cells) X.cd mi)=F/\GoOk X.cd T (k+(i+1)) (AM.step (room X.cells) X.cd mi)):=by
     refine⟨?_,GoOk.step HE.o.2 (hgo hg) hg⟩
     rw[show N - i=(N - (i+1))+1 by omega,AM.run,if_pos hg] at hr
     exact hr
    have Hlt:=zh hlt
    generalize AM.step (room X.cells) X.cd mi=ms at *
    clear hJ hm hr hgo hg hN hlt hi1
    go_wp2_with fail
    refine cM HG.o ?_
    rintro e w2 ⟨rfl,hw2⟩
    have H19:Hid _:=HS.o w2 hw2
    clear hw2
    go_wp2_with fail
    refine cM H19.o ?_
    rintro e w3 ⟨rfl,g3,R3,hJ3,hm3⟩
    have HQ3:Hid (∃ mi gi Ri,J X w3 gi mi Ri/\Mv X w g w3 gi/\AM.run (room X.cells) X.cd (N - (i+1)) mi=F/\GoOk X.cd T (k+(i+1)) mi):=⟨ms,g3,R3,hJ3,hm3,Hr.o.1,Hr.o.2⟩
    clear hJ3 hm3
    go_wp2_with fail
    go_roundg (N - (i+1))
    case measure=>
     have:=Hlt.o
     omega
    case rel=>exact⟨i+1,by first | rfl | rw[hwi],Hlt.o,rfl,HQ3⟩
   ·rw[show decide (mi.kind=0/\mi.s.cA.length≠0)=false from decide_eq_false hg] at HG
    rw[ze5 _ _ _ _ hg] at hr
    subst hr
    have HQ0:Hid (∀ wx,Kp [] wr wx->J X wx gi mi Ri/\Mv X w g wx gi):=fun wx hx=>⟨hJ.kp hx,hm.trans (Mv.zk hx)⟩
    clear hJ hm hgo hg hN hlt hi1
    go_wp2_with fail
    refine cM HG.o ?_
    rintro e w2 ⟨rfl,hw2⟩
    have HQ:Hid _:=HQ0.o w2 hw2
    clear hw2
    obtain⟨-,-,-,c37,cl⟩:=HQ.o.1.box.tell
    generalize (mfOf X gi mi).steps=st9 at *
    have HR:Hid (GoPost X w g mi (.returned (.int .i64 (wrap64 (st9 - st0)))) w2):=.mk _ _ _ _ HQ.o.1 HQ.o.2
    go_wp2_with fail
    exact bR (by simp[results,Tryz.results8,go_sem]) HR.o
  ·have hltI:¬ ((i:Int) < mn):=by omega
   rw[show N - i=0 by omega] at hr
   have hr2:mi=F:=hr
   subst hr2
   have HQ:Hid (_/\_):=⟨hJ,hm⟩
   clear hJ hm hr hgo hN hlt hi1
   obtain⟨-,-,-,c37,cl⟩:=HQ.o.1.box.tell
   generalize (mfOf X gi mi).steps=st9 at *
   have HR:Hid (GoPost X w g mi (.returned (.int .i64 (wrap64 (st9 - st0)))) wr):=.mk _ _ _ _ HQ.o.1 HQ.o.2
   go_wp2_with fail
   exact bR (by simp[results,Tryz.results8,go_sem]) HR.o
end
end Go.Proofs.YtkcmachfagcnaaaGreatDoor
