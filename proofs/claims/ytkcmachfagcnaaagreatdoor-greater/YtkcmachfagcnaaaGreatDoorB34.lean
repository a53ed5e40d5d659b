/- Part of Greater. -/
import Derived.Test.YtkcmachfagcnaaaGreatDoorB33
set_option maxHeartbeats 8000000
set_option maxRecDepth 100000
namespace Go.Proofs.YtkcmachfagcnaaaGreatDoor
open Go.RowKit Go.Deep Go.IntWalk
open C12 (Cd Fn In zT)
section
variable{X:Fx}{w:World}{g:Pg}{m:AM}{R:Int->Int->Prop}
theorem znh(h:J X w g m R)(hd:okD X.cd m.D)(hn:0 < m.s.cA.length)(hnx:m.next+1<=1000000000)(hv0:0 < m.s.vA.length)(hok0:okC (m.s.top 0)):Calls Tryz.prog 90 #[.pointer (some ⟨X.mm,0,none⟩),sg [33]] w fun e w'=>zP X w g m (if isC m.D (m.s.top 0) 0 then .give (getA m.D (m.s.top 0).n 0) else .wrong) e w':=by
 obtain⟨w1,hw1,HB,HJ⟩:=pre1W h (.cells #[.bool false,.int .i64 0] 67)
 have hvl:=h.vlen
 have HT0:Hid (∀ wx,Kp [] w1 wx->Calls Tryz.prog 49 #[.pointer (some ⟨X.mm,0,none⟩),.int .i64 0] wx fun e w'=>e=.returned (.agg #[.bool (g.s.top 0).p,.int .i64 (g.s.top 0).n])/\Kp [] w1 w'):=zbc HJ.o 0 (by omega)
 have HI0:Hid (_/\_/\_):=⟨h.top 0 (by omega),h.topwf 0 (by omega),hok0⟩
 have Hd:=zh hd
 have Hn:Hid (_/\_):=⟨hn,hnx⟩
 clear h hd hn hnx hv0 hok0 hvl
 generalize hA:(if isC m.D (m.s.top 0) 0 then .give (getA m.D (m.s.top 0).n 0) else .wrong:Act1)=act
 have HA:=zh hA
 clear hA
 generalize g.s.top 0=c0 at *
 obtain⟨vp,vn⟩:=c0
 generalize m.s.top 0=v at *
 simp only at HT0
 unfold sg
 go_enter Tryz.func90,Tryz.ntmps90
 go_wp2_with fail
 rw[<-hw1.out]
 refine cM (HT0.o _ kr) ?_
 rintro e w2 ⟨rfl,hw2⟩
 have HK3:Hid (Kp [] w1 (w2.alloc (.cells #[.bool vp,.int .i64 vn] 67))):=hw2.trans kA
 have hb3:(w2.alloc (.cells #[.bool vp,.int .i64 vn] 67)).heap[w2.heap.size]? = some (.cells #[.bool vp,.int .i64 vn] 67):=zab w2 _
 have hlt:=lL HB.o.2.2.1.1 hw2.size
 have HF:Hid (∀ wx,Kp [] (w2.alloc (.cells #[.bool vp,.int .i64 vn] 67)) wx->wx.heap[w2.heap.size]? = some (.cells #[.bool vp,.int .i64 vn] 67)/\wx.cell? ⟨w2.heap.size,0,none⟩=some (.bool vp)/\wx.cell? ⟨w2.heap.size,1,none⟩=some (.int .i64 vn)/\w2.heap.size < wx.heap.size):=fun wx hx=>by
  have e0:=zad hb3 hx
  have e1:=zaa e0
  exact⟨e0,e1.1,e1.2.1,e1.2.2.2.2⟩
 have Hne:Hid (w2.heap.size≠w.heap.size):=by unfold Hid;omega
 clear hw2 hb3 hlt
 go_upto_region 4 with fail
 generalize w2.alloc _=w3 at *
 generalize w2.heap.size=bv at *
 have HI:Hid (∀ wx,Kp [] w3 wx->_):=zc0 (HJ.o.kp HK3.o) ⟨vp,vn⟩ v HI0.o.1 0
 obtain⟨-,f0,f1,f2⟩:=HF.o w3 kr
 cases k1:isC m.D v 0 with
 | false=>
  rw[k1] at HI HA
  rw[if_neg Bool.false_ne_true] at HA
  go_wp2_with fail
  refine cM (HI.o _ kr) ?_
  rintro e w4 ⟨rfl,hw4⟩
  clear f0 f1 f2
  have hk4:=HK3.o.trans hw4
  obtain⟨⟨y0,y1,z0,z1,cl⟩,d0,d1,Q⟩:=endF1 HB.o HJ.o hk4 (.inl ⟨HA.o.symm,rfl⟩)
  clear k1 hw4 hk4
  go_wp2_with fail
  exact bR (by simp[results,Tryz.results90,go_sem,d0,d1]) Q.o
 | true=>
  rw[k1] at HI HA
  rw[if_pos rfl] at HA
  obtain⟨hvp,ut,hut,hkt,htt⟩:=zcf k1
  obtain⟨hap,u2,hu2,pf,hpf,hpg⟩:=HJ.o.views HI0.o.1 hvp
  rw[hut] at hu2
  cases hu2
  simp only at hap
  have hl1:ut.fs.length=1:=by
   rcases(Hd.o _ _ hut).ce hkt with e | e
   ·exact e.2
   ·omega
  have Hpf:Hid _:=hpf 0 (by omega)
  have HG:Hid (∀ wr,Kp [] w1 wr->∀ wx,Kp [] wr wx->Calls Tryz.prog 82 #[.pointer (some ⟨X.hp,0,none⟩),.int .i64 vn,.int .i64 0] wx fun e w'=>e=.returned (.agg #[.bool (pf 0).p,.int .i64 (pf 0).n])/\Kp [] wr w'):=fun wr hr wx hx=>(hpg wr hr wx hx).2.2 0 (by omega)
  clear hvp hut hkt htt hpf hpg hl1
  subst hap
  generalize pf 0=c at *
  obtain⟨cp,cn⟩:=c
  simp only at HG
  go_wp2_with fail
  refine cM (HI.o _ kr) ?_
  rintro e w4 ⟨rfl,hw4⟩
  clear f0 f1 f2
  have hk4:=HK3.o.trans hw4
  have hJ4:=HJ.o.kp hk4
  have HR:Hid (∀ wx,Kp [] w4 wx->Rd X bv (.cells #[.bool true,.int .i64 vn] 67) wx):=fun wx hx=>⟨(HF.o wx (hw4.trans hx)).1,_,hJ4.box.kp hx (by simp),rfl⟩
  have Hmm:Hid (X.mm≠w.heap.size):=fun e=>HB.o.2.2.1.2 (by rw[<-e];exact za3)
  have HT:Hid (∀ wx,Kp [] w4 wx->_):=HG.o w4 hk4
  have Hk4:=zh hk4
  clear hJ4 hw4 hk4
  go_upto_region 6 with fail
  refine zao (C:=fun wx=>Rd X bv (.cells #[.bool true,.int .i64 vn] 67) wx) (by kernel_rfl) ?_
  refine qA 0 rfl ?_
  apply xI
  (intro wx hwx;go_simp <;> rfl)
  refine qA 1 rfl ?_
  apply xI
  (intro wx hwx;go_simp <;> rfl)
  refine qA 2 rfl ?_
  apply xI
  (intro wx hwx;go_simp <;> rfl)
  refine qA 3 rfl ?_
  apply xI
  (intro wx hwx;obtain⟨x1,x2⟩:=Rd.hp hwx;obtain⟨f0,f1,f2,f3,f4⟩:=zaa hwx.1;go_simp <;> rfl)
  refine qA 4 rfl ?_
  apply xI
  (intro wx hwx;go_simp <;> rfl)
  refine qA 5 rfl ?_
  apply xI
  (intro wx hwx;obtain⟨x1,x2⟩:=Rd.hp hwx;obtain⟨f0,f1,f2,f3,f4⟩:=zaa hwx.1;go_simp <;> rfl)
  refine oA 6 (HR.o _ (Kp.refl _ _).drew) rfl (fun K hK=>?_)
  go_simp
  refine cM (HT.o _ (Kp.refl _ _).drew) ?_
  rintro e9 w9 ⟨rfl,hw9⟩
  refine hK _ _ ?_
  clear hK K
  have hk9:=Hk4.o.trans hw9
  obtain⟨mv,a1,o1,hwc⟩:=HB.o
  have hbz:=zad a1 hk9
  have hC9:Hid _:=HR.o _ hw9
  have HC9:Hid (Rd X bv (.cells #[.bool true,.int .i64 vn] 67) ((w9.setCell ⟨w.heap.size,0,none⟩ (.bool cp)).setCell ⟨w.heap.size,1,none⟩ (.int .i64 cn))):=(HR.o _ hw9).set2 Hne.o Hmm.o _ _
  obtain⟨y0,y1,z0,z1,cl⟩:=zaa hbz
  obtain⟨d0,d1,_⟩:=zaa (zae hbz (.bool cp) (.int .i64 cn))
  have Q:Hid (zP X w g m act (.returned (.tuple #[.agg #[.bool cp,.int .i64 cn],.int .i64 0])) ((w9.setCell ⟨w.heap.size,0,none⟩ (.bool cp)).setCell ⟨w.heap.size,1,none⟩ (.int .i64 cn))):=by
   unfold Hid
   rw[<-HA.o]
   exact za4 (p:=⟨cp,cn⟩) Hpf.o.1 Hpf.o.2 (fin2 (HJ.o.kp hk9) (mv.trans (Mv.zk hk9)) ⟨lL o1.1 hk9.size,o1.2⟩ (by omega) hwc _ _)
  clear a1 o1 mv hwc hbz hk9 hw9 k1
  refine oA 7 hC9.out rfl (fun K hK=>?_)
  go_simp
  refine hK _ _ ?_
  clear hK K
  refine oA 8 HC9.o rfl (fun K hK=>?_)
  go_simp
  refine hK _ _ ?_
  clear hK K
  refine zag HC9.o (by kernel_rfl) ?_
  go_simp
  clear hC9
  go_wp2_with fail
  exact bR (by simp[results,Tryz.results90,go_sem,d0,d1]) Q.o
theorem zng(h:J X w g m R)(hd:okD X.cd m.D)(hn:0 < m.s.cA.length)(hnx:m.next+1<=1000000000)(hv0:0 < m.s.vA.length)(hok0:okC (m.s.top 0)):Calls Tryz.prog 90 #[.pointer (some ⟨X.mm,0,none⟩),sg [126]] w fun e w'=>zP X w g m (if(m.s.top 0).p then .wrong else inR (-(m.s.top 0).n)) e w':=by
 obtain⟨w1,hw1,HB,HJ⟩:=pre1W h (.cells #[.bool false,.int .i64 0] 67)
 have hvl:=h.vlen
 have HT0:Hid (∀ wx,Kp [] w1 wx->Calls Tryz.prog 49 #[.pointer (some ⟨X.mm,0,none⟩),.int .i64 0] wx fun e w'=>e=.returned (.agg #[.bool (g.s.top 0).p,.int .i64 (g.s.top 0).n])/\Kp [] w1 w'):=zbc HJ.o 0 (by omega)
 have HI0:Hid (_/\_/\_):=⟨h.top 0 (by omega),h.topwf 0 (by omega),hok0⟩
 have Hd:=zh hd
 have Hn:Hid (_/\_):=⟨hn,hnx⟩
 clear h hd hn hnx hv0 hok0 hvl
 generalize hA:(if(m.s.top 0).p then .wrong else inR (-(m.s.top 0).n):Act1)=act
 have HA:=zh hA
 clear hA
 generalize g.s.top 0=c0 at *
 obtain⟨vp,vn⟩:=c0
 generalize m.s.top 0=v at *
 simp only at HT0
 unfold sg
 go_enter Tryz.func90,Tryz.ntmps90
 go_wp2_with fail
 rw[<-hw1.out]
 refine cM (HT0.o _ kr) ?_
 rintro e w2 ⟨rfl,hw2⟩
 have HK3:Hid (Kp [] w1 (w2.alloc (.cells #[.bool vp,.int .i64 vn] 67))):=hw2.trans kA
 have hb3:(w2.alloc (.cells #[.bool vp,.int .i64 vn] 67)).heap[w2.heap.size]? = some (.cells #[.bool vp,.int .i64 vn] 67):=zab w2 _
 have hlt:=lL HB.o.2.2.1.1 hw2.size
 have HF:Hid (∀ wx,Kp [] (w2.alloc (.cells #[.bool vp,.int .i64 vn] 67)) wx->wx.heap[w2.heap.size]? = some (.cells #[.bool vp,.int .i64 vn] 67)/\wx.cell? ⟨w2.heap.size,0,none⟩=some (.bool vp)/\wx.cell? ⟨w2.heap.size,1,none⟩=some (.int .i64 vn)/\w2.heap.size < wx.heap.size):=fun wx hx=>by
  have e0:=zad hb3 hx
  have e1:=zaa e0
  exact⟨e0,e1.1,e1.2.1,e1.2.2.2.2⟩
 have Hne:Hid (w2.heap.size≠w.heap.size):=by unfold Hid;omega
 clear hw2 hb3 hlt
 go_upto_region 8 with fail
 generalize w2.alloc _=w3 at *
 generalize w2.heap.size=bv at *
 obtain⟨e1,e2,-⟩:=HI0.o.1
 simp only at e1 e2
 obtain⟨-,f0,f1,f2⟩:=HF.o w3 kr
 cases vp with
 | true=>
  rw[if_pos e1.symm] at HA
  clear e1 e2
  obtain⟨⟨y0,y1,z0,z1,cl⟩,d0,d1,Q⟩:=endF1 HB.o HJ.o HK3.o (.inl ⟨HA.o.symm,rfl⟩)
  go_wp2_with fail
  exact bR (by simp[results,Tryz.results90,go_sem,d0,d1]) Q.o
 | false=>
  have hbn:=e2 rfl
  have hb:=HI0.o.2.2 e1.symm
  rw[<-hbn] at hb
  rw[if_neg (by rw[<-e1];exact Bool.false_ne_true),<-hbn] at HA
  have hw:IntKind.i64.wrap (-vn)=-vn:=by rw[IntKind.wrap_i64];omega
  obtain⟨pp,pn,pf9,hp⟩:=zcx (inR (-vn))
  have Hpv:Hid (_/\Pur (inR (-vn))):=⟨hp,zpt _⟩
  have HC:Hid _:=zca w3 (-vn)
  rw[hp] at HC
  clear e1 e2 hbn hb hp
  go_wp2_with fail
  refine cM HC.o ?_
  rintro e w5 ⟨rfl,hw5⟩
  have hk5:=HK3.o.trans hw5
  obtain⟨mv,a1,o1,hwc⟩:=HB.o
  have hbz:=zad a1 hk5
  obtain⟨y0,y1,z0,z1,cl⟩:=zaa hbz
  obtain⟨d0,d1,_⟩:=zaa (zae hbz (.bool pp) (.int .i64 pn))
  have Q:Hid (zP X w g m act (.returned (.tuple #[.agg #[.bool pp,.int .i64 pn],.int .i64 pf9])) ((w5.setCell ⟨w.heap.size,0,none⟩ (.bool pp)).setCell ⟨w.heap.size,1,none⟩ (.int .i64 pn))):=by
   unfold Hid
   rw[<-HA.o,<-Hpv.o.1]
   have h9:=fin2 (HJ.o.kp hk5) (mv.trans (Mv.zk hk5)) ⟨lL o1.1 (hk5).size,o1.2⟩ (Nat.le_refl _) hwc (.bool pp) (.int .i64 pn)
   exact Hpv.o.2.act h9.1 h9.2
  clear a1 o1 mv hwc hbz hk5 hw5 hw f0 f1 f2
  go_wp2_with fail
  exact bR (by simp[results,Tryz.results90,go_sem,d0,d1]) Q.o
theorem ze3(l:List UInt8)(act:Act1)(hk:l=[61]/\act=compA m.D (m.s.top 1) (m.s.top 0) true\/l=[60,62]/\act=compA m.D (m.s.top 1) (m.s.top 0) false\/l=[94]/\act=joinA m.D (m.s.top 1) (m.s.top 0)\/l=[58,61]/\act=if isC m.D (m.s.top 1) 0 then .set (m.s.top 1).n 0 (m.s.top 0) else .wrong)(h:J X w g m R)(hd:okD X.cd m.D)(hn:0 < m.s.cA.length)(hnx:m.next+1<=1000000000)(hv0:1 < m.s.vA.length)(hok0:okC (m.s.top 0))(hok1:okC (m.s.top 1)):Calls Tryz.prog 90 #[.pointer (some ⟨X.mm,0,none⟩),sg l] w fun e w'=>zP X w g m act e w':=by
 obtain⟨w1,hw1,HB,HJ⟩:=pre1W h (.cells #[.bool false,.int .i64 0] 67)
 have hvl:=h.vlen
 have HT0:Hid (∀ wx,Kp [] w1 wx->Calls Tryz.prog 49 #[.pointer (some ⟨X.mm,0,none⟩),.int .i64 0] wx fun e w'=>e=.returned (.agg #[.bool (g.s.top 0).p,.int .i64 (g.s.top 0).n])/\Kp [] w1 w'):=zbc HJ.o 0 (by omega)
 have HI0:Hid (_/\_/\_):=⟨h.top 0 (by omega),h.topwf 0 (by omega),hok0⟩
 have HT1:Hid (∀ wr,Kp [] w1 wr->∀ wx,Kp [] wr wx->Calls Tryz.prog 49 #[.pointer (some ⟨X.mm,0,none⟩),.int .i64 1] wx fun e w'=>e=.returned (.agg #[.bool (g.s.top 1).p,.int .i64 (g.s.top 1).n])/\Kp [] wr w'):=fun wr hr=>zbc (HJ.o.kp hr) 1 (by omega)
 have HI1:Hid (_/\_/\_):=⟨h.top 1 (by omega),h.topwf 1 (by omega),hok1⟩
 have Hd:=zh hd
 have Hn:Hid (_/\_):=⟨hn,hnx⟩
 clear h hd hn hnx hv0 hok0 hok1 hvl
 generalize g.s.top 0=c0 at *
 obtain⟨vp,vn⟩:=c0
 generalize m.s.top 0=v at *
 generalize g.s.top 1=c1 at *
 obtain⟨up,un⟩:=c1
 generalize m.s.top 1=u at *
 simp only at HT1
 simp only at HT0
 unfold sg
 rcases hk with⟨rfl,hA⟩ | ⟨rfl,hA⟩ | ⟨rfl,hA⟩ | ⟨rfl,hA⟩
 all_goals
  have HA:Hid (_=act):=hA.symm
  clear hA
  go_enter Tryz.func90,Tryz.ntmps90
  go_wp2_with fail
  rw[<-hw1.out]
  refine cM (HT0.o _ kr) ?_
  rintro e w2 ⟨rfl,hw2⟩
  have HK3:Hid (Kp [] w1 (w2.alloc (.cells #[.bool vp,.int .i64 vn] 67))):=hw2.trans kA
  have hb3:(w2.alloc (.cells #[.bool vp,.int .i64 vn] 67)).heap[w2.heap.size]? = some (.cells #[.bool vp,.int .i64 vn] 67):=zab w2 _
  have hlt:=lL HB.o.2.2.1.1 hw2.size
  have HF:Hid (∀ wx,Kp [] (w2.alloc (.cells #[.bool vp,.int .i64 vn] 67)) wx->wx.heap[w2.heap.size]? = some (.cells #[.bool vp,.int .i64 vn] 67)/\wx.cell? ⟨w2.heap.size,0,none⟩=some (.bool vp)/\wx.cell? ⟨w2.heap.size,1,none⟩=some (.int .i64 vn)/\w2.heap.size < wx.heap.size):=fun wx hx=>by
   have e0:=zad hb3 hx
   have e1:=zaa e0
   exact⟨e0,e1.1,e1.2.1,e1.2.2.2.2⟩
  have Hne:Hid (w2.heap.size≠w.heap.size):=by unfold Hid;omega
  have HLT:=zh hw2.size
  clear hw2 hb3 hlt
 go_upto_region 12 with fail
 have HPJ:Hid (∀ wx,J X wx g m R->_):=fun wx hx=>zf5 hx Hd.o ⟨up,un⟩ u ⟨vp,vn⟩ v HI1.o.1 HI0.o.1 true
 rotate_left
 go_upto_region 14 with fail
 have HPJ:Hid (∀ wx,J X wx g m R->_):=fun wx hx=>zf5 hx Hd.o ⟨up,un⟩ u ⟨vp,vn⟩ v HI1.o.1 HI0.o.1 false
 rotate_left
 go_upto_region 16 with fail
 have HPJ:Hid (∀ wx,J X wx g m R->_):=fun wx hx=>zn2 hx Hd.o Hn.o.1 Hn.o.2 ⟨up,un⟩ u ⟨vp,vn⟩ v HI1.o.1 HI0.o.1
 rotate_left
 go_upto_region 18 with fail
 have HPJ:Hid (∀ wx,J X wx g m R->_):=fun wx hx=>zj9 hx Hd.o ⟨up,un⟩ u ⟨vp,vn⟩ v HI1.o.1 HI0.o.1 HI0.o.2.1
 rotate_left
 all_goals
  generalize w2.alloc _=w3 at *
  generalize w2.heap.size=bv at *
  have hJ3:=HJ.o.kp HK3.o
  have HP:Hid (∀ wx,Kp [] w3 wx->_):=fun wx hx=>HPJ.o wx (hJ3.kp hx)
  have HR:Hid (∀ wx,Kp [] w3 wx->Rd X bv (.cells #[.bool vp,.int .i64 vn] 67) wx):=fun wx hx=>⟨(HF.o wx hx).1,_,hJ3.box.kp hx (by simp),rfl⟩
  have Hmm:Hid (X.mm≠w.heap.size):=fun e=>HB.o.2.2.1.2 (by rw[<-e];exact za3)
  have HT:Hid (∀ wx,Kp [] w3 wx->_):=HT1.o w3 HK3.o
  have Hobv:Hid (Off X w3 g bv):=⟨(HF.o w3 kr).2.2.2,fun e=>by have:=J.fpt_lt (HJ.o) bv e;have:=HLT.o;omega⟩
  clear hJ3
  refine zao (C:=fun wx=>Rd X bv (.cells #[.bool vp,.int .i64 vn] 67) wx) (by kernel_rfl) ?_
  refine qA 0 rfl ?_
  apply xI
  (intro wx hwx;go_simp <;> rfl)
  refine qA 1 rfl ?_
  apply xI
  (intro wx hwx;go_simp <;> rfl)
  refine qA 3 rfl ?_
  apply xI
  (intro wx hwx;obtain⟨f0,f1,f2,f3,f4⟩:=zaa hwx.1;go_simp <;> rfl)
  refine oA 2 (HR.o _ (Kp.refl _ _).drew) rfl (fun K hK=>?_)
  go_simp
  refine cM (HT.o _ (Kp.refl _ _).drew) ?_
  rintro e8 w8 ⟨rfl,hw8⟩
  refine hK _ _ ?_
  clear hK K
  refine oA 4 (HR.o _ hw8) rfl (fun K hK=>?_)
  go_simp
  refine cM (HP.o _ hw8) ?_
  intro e9 w9 q
  have hk8:=HK3.o.trans hw8
  obtain⟨mv,a1,o1,hwc⟩:=HB.o
  obtain⟨pp,pn,pf9,rfl,hb9,hQ⟩:=q.lift (w:=w) (g:=g) (b:=w.heap.size) (mv.trans (Mv.zk hk8)) (zad a1 hk8) ⟨lL o1.1 hk8.size,o1.2⟩ (Nat.le_refl _) hwc
  have hC9:Rd X bv (.cells #[.bool vp,.int .i64 vn] 67) w9:=by
   obtain⟨g9,hm9⟩:=q.mv
   obtain⟨f9,hf9,he9⟩:=q.box
   have o1':Off X w8 g bv:=⟨lL Hobv.o.1 hw8.size,Hobv.o.2⟩
   exact⟨(o1'.mv hm9).2.trans (HR.o _ hw8).1,f9,hf9,he9⟩
  refine hK _ _ ?_
  clear hK K
  obtain⟨y0,y1,z0,z1,cl⟩:=zaa hb9
  obtain⟨d0,d1,_⟩:=zaa (zae hb9 (.bool pp) (.int .i64 pn))
  rw[HA.o] at hQ
  have Q:=zh hQ
  have HC9:Hid (Rd X bv (.cells #[.bool vp,.int .i64 vn] 67) ((w9.setCell ⟨w.heap.size,0,none⟩ (.bool pp)).setCell ⟨w.heap.size,1,none⟩ (.int .i64 pn))):=hC9.set2 Hne.o Hmm.o _ _
  have hD9:=zh hC9
  clear mv a1 o1 hwc hb9 hQ q hw8 hk8 hC9
  refine qA 5 rfl ?_
  apply xI
  (intro wx hwx;go_simp <;> rfl)
  refine qA 6 rfl ?_
  apply xI
  (intro wx hwx;go_simp <;> rfl)
  refine oA 7 hD9.out rfl (fun K hK=>?_)
  go_simp
  refine hK _ _ ?_
  clear hK K
  refine oA 8 HC9.o rfl (fun K hK=>?_)
  go_simp
  refine hK _ _ ?_
  clear hK K
  refine zag HC9.o (by kernel_rfl) ?_
  go_simp
  clear hD9
  go_wp2_with fail
  exact bR (by simp[results,Tryz.results90,go_sem,d0,d1]) Q.o
end
def signS:List (List UInt8):=[[43],[45],[42],[47],[37],[60],[60,61],[62],[62,61],[61],[60,62],[94],[33],[58,61],[126]]
section
variable{X:Fx}{w:World}{g:Pg}{m:AM}{R:Int->Int->Prop}
theorem zsm(h:J X w g m R)(hd:okD X.cd m.D)(hn:0 < m.s.cA.length)(hnx:m.next+1<=1000000000)(k:Nat)(hk:k < 15)(hv0:(if k=12\/k=14 then 0 else 1) < m.s.vA.length)(hok0:okC (m.s.top 0))(hok1:okC (m.s.top 1)):Calls Tryz.prog 90 #[.pointer (some ⟨X.mm,0,none⟩),sg ((signS[k]?).getD [])] w fun e w'=>zP X w g m (signA m.D k (m.s.top 1) (m.s.top 0)) e w':=by
 have hc:k=0\/k=1\/k=2\/k=3\/k=4\/k=5\/k=6\/k=7\/k=8\/k=9\/k=10\/k=11\/k=12\/k=13\/k=14:=by omega
 rcases hc with rfl | rfl | rfl | rfl | rfl | rfl | rfl | rfl | rfl | rfl | rfl | rfl | rfl | rfl | rfl
 iterate 9 exact zo9 _ (by omega) h hd hn hnx hv0 hok0 hok1
 ·exact ze3 _ _ (.inl ⟨rfl,rfl⟩) h hd hn hnx hv0 hok0 hok1
 ·exact ze3 _ _ (.inr (.inl ⟨rfl,rfl⟩)) h hd hn hnx hv0 hok0 hok1
 ·exact ze3 _ _ (.inr (.inr (.inl ⟨rfl,rfl⟩))) h hd hn hnx hv0 hok0 hok1
 ·exact znh h hd hn hnx hv0 hok0
 ·exact ze3 _ _ (.inr (.inr (.inr ⟨rfl,rfl⟩))) h hd hn hnx hv0 hok0 hok1
 ·exact zng h hd hn hnx hv0 hok0
end
def AM.k0(m:AM):AM:={m with kind:=0}
theorem AM.k0_eq{m:AM}(h:m.kind=0):m.k0=m:=by
 unfold AM.k0
 cases m
 simp only at h
 rw[h]
theorem AM.k0_s(m:AM)(h:m.kind=0)(s:St):({m with s:=s} : AM).k0={m with s:=s}:=AM.k0_eq h
inductive zD(X:Fx)(w:World)(g:Pg)(m':AM):Ending->World->Prop
 | mk (w':World) (g':Pg) (R':Int->Int->Prop) (hJ:J X w' g' m'.k0 R') (hm:Mv X w g w' g'):zD X w g m' (.returned (.int .i64 m'.kind)) w'
section
variable{X:Fx}{w:World}{g:Pg}{m:AM}{R:Int->Int->Prop}
theorem zD.of{w':World}{g':Pg}{R':Int->Int->Prop}{m':AM}(k:Int)(hk:m'.kind=k)(hJ:J X w' g' m'.k0 R')(hm:Mv X w g w' g'):zD X w g m' (.returned (.int .i64 k)) w':=by
 rw[<-hk]
 exact .mk w' g' R' hJ hm
theorem zD.from{w1 w':World}{g1:Pg}{m':AM}{e:Ending}(h:zD X w1 g1 m' e w')(hm:Mv X w g w1 g1):zD X w g m' e w':=by
 cases h with
 | mk w' g' R' hJ hm2=>exact .mk w' g' R' hJ (hm.trans hm2)
theorem zvr{base:Nat}{v:Value}{l:List Cal}(h:OwnK w base v l)(hn:0 < l.length){gc cap:Nat}(hv:v=.slice (some ⟨gc,0,none⟩) l.length cap)(pc:Nat):OwnK (w.setCell ⟨gc,(l.length - 1) * 9+5,none⟩ (.int .i64 pc)) base v (l.dropLast++[{(l.getLast?).getD default with pc:=pc}]):=by
 subst hv
 rcases zbg h with⟨h1,_⟩ | ⟨g2,cap2,cur,h1,h2,h3,h4,h5,h6,h7⟩
 ·cases h1
 ·cases h1
  have hl:(l.dropLast++[{(l.getLast?).getD default with pc:=pc}]).length=l.length:=by simp;omega
  unfold OwnK
  rw[hl]
  refine zgn h2 (zaq h3 _ _) h4 h5 (by simpa using h6) ?_ (fun j hj=>?_)
  ·rw[show zd2 (l.dropLast++[{(l.getLast?).getD default with pc:=pc}])=(l.dropLast++[{(l.getLast?).getD default with pc:=pc}]).flatMap calV from rfl,zmq calV 9 zcu,hl]
  ·have e0:=h7 j hj
   obtain⟨i,k,hk,rfl⟩:∃ i k,k < 9/\j=i * 9+k:=⟨j / 9,j % 9,by omega,by omega⟩
   have hi:i < l.length:=by omega
   rw[show zd2 l=l.flatMap calV from rfl,zcr calV 9 zcu l i hi k hk] at e0
   rw[show zd2 (l.dropLast++[{(l.getLast?).getD default with pc:=pc}])=(l.dropLast++[{(l.getLast?).getD default with pc:=pc}]).flatMap calV from rfl,zcr calV 9 zcu _ i (by omega) k hk,Array.getElem?_setIfInBounds]
   by_cases hlast:i=l.length - 1
   ·subst hlast
    have e1:(l.dropLast++[{(l.getLast?).getD default with pc:=pc}])[l.length - 1]'(by omega)={(l.getLast?).getD default with pc:=pc}:=by
     rw[List.getElem_append_right (by simp)]
     simp
    rw[e1]
    rw[zcv hn]
    have hsz:(l.length - 1) * 9+5 < cur.size:=by rw[h6];omega
    by_cases h5k:k=5
    ·subst h5k
     rw[if_pos rfl,if_pos hsz]
     rfl
    ·rw[if_neg (by omega),e0]
     have:k=0\/k=1\/k=2\/k=3\/k=4\/k=6\/k=7\/k=8:=by omega
     rcases this with rfl | rfl | rfl | rfl | rfl | rfl | rfl | rfl <;> rfl
   ·rw[if_neg (by omega),e0,List.getElem_append_left (by simp;omega),List.getElem_dropLast]
theorem zjw(s:St)(pc:Nat):(s.goto pc).cA[s.cA.length - 1]? = some {s.cur with pc:=pc}:=by
 unfold St.goto
 simp only
 rw[List.getElem?_append_right (by simp)]
 simp
theorem zmm(s:St)(pc:Nat){i:Nat}(h:i < s.cA.length - 1):(s.goto pc).cA[i]? = s.cA[i]?:=by
 unfold St.goto
 simp only
 rw[List.getElem?_append_left (by simp;omega),List.getElem?_dropLast,if_pos (by omega)]
theorem J.setPc(h:J X w g m R)(hn:0 < m.s.cA.length){gc cap:Nat}(hvc:g.vc=.slice (some ⟨gc,0,none⟩) g.s.cA.length cap)(pc:Nat):J X (w.setCell ⟨gc,(g.s.cA.length - 1) * 9+5,none⟩ (.int .i64 pc)) (g.setC g.vc (g.s.goto pc).cA) {m with s:=m.s.goto pc} R/\Mv X w g (w.setCell ⟨gc,(g.s.cA.length - 1) * 9+5,none⟩ (.int .i64 pc)) (g.setC g.vc (g.s.goto pc).cA):=by
 have hcl:=h.clen
 have hcu:=h.cur hn
 have hob:g.vc.ownBlock=some gc:=by rw[hvc];rfl
 have hk:Kp [gc] w (w.setCell ⟨gc,(g.s.cA.length - 1) * 9+5,none⟩ (.int .i64 pc)):=Kp.setCell _ _ (by simp) _
 have hmb:=h.box
 unfold MBx at hmb
 have hne:X.mm∉[gc]:=by
  have:=h.tc.ne hmb (by decide)
  rw[hob] at this
  simpa using this
 have hbx:=h.box.kp hk hne
 have hl:(g.s.goto pc).cA.length=g.s.cA.length:=by simp[St.goto];omega
 have hl2:(m.s.goto pc).cA.length=m.s.cA.length:=by simp[St.goto];omega
 refine h.cA (v:=g.vc) (l:=(g.s.goto pc).cA) (l2:=(m.s.goto pc).cA) hbx (zvr h.oc (by omega) hvc pc) (hk.mono (by rw[hob];simp)) (Or.inl rfl) (by omega) (fun i hi hk2=>?_) (fun c hc=>?_) (by have:=h.len.1;omega)
 ·by_cases hlast:i=g.s.cA.length - 1
  ·subst hlast
   have e1:((g.s.goto pc).cA)[g.s.cA.length - 1]'hi={g.s.cur with pc:=pc}:=by
    have:=zjw g.s pc
    rw[gE hi] at this
    exact Option.some.inj this
   have e2:((m.s.goto pc).cA)[g.s.cA.length - 1]'hk2={m.s.cur with pc:=pc}:=by
    have:=zjw m.s pc
    rw[<-hcl,gE hk2] at this
    exact Option.some.inj this
   rw[e1,e2]
   exact⟨hcu.num,rfl,hcu.sb,hcu.vb,hcu.tb,hcu.fn,hcu.arg⟩
  ·have e1:((g.s.goto pc).cA)[i]'hi=g.s.cA[i]'(by omega):=by
    have:=zmm g.s pc (i:=i) (by omega)
    rw[gE hi,gE (by omega)] at this
    exact Option.some.inj this
   have e2:((m.s.goto pc).cA)[i]'hk2=m.s.cA[i]'(by omega):=by
    have:=zmm m.s pc (i:=i) (by omega)
    rw[gE hk2,gE (by omega)] at this
    exact Option.some.inj this
   rw[e1,e2]
   exact h.st.ca i (by omega) (by omega)
 ·have hc2:c∈zY (g.s.cA.dropLast++[{g.s.cur with pc:=pc}]):=hc
  rw[zej] at hc2
  have hall:∀ c∈zY (g.s.cA.dropLast++[g.s.cur]),wfC c:=by
   have e3:g.s.cA.dropLast++[g.s.cur]=g.s.cA:=by
    have hne2:g.s.cA≠[]:=by intro e;rw[e] at hcl;simp at hcl;omega
    have e4:g.s.cur=g.s.cA.getLast hne2:=by unfold St.cur;rw[List.getLast?_eq_some_getLast hne2];rfl
    rw[e4]
    exact List.dropLast_concat_getLast hne2
   rw[e3]
   exact h.cwf
  rw[zej] at hall
  exact hall c hc2
theorem zik(h:J X w g m R)(hk0:m.kind=0)(hn:0 < m.s.cA.length)(hsb:m.s.cur.sb<=m.s.sA.length)(hvb:m.s.cur.vb<=m.s.vA.length)(htb:m.s.cur.tb<=m.s.tA.length)(hvl:m.s.vA.length+1<=1000000000)(p v:Cl)(hpv:zI R p v)(hwf:wfC p):Calls Tryz.prog 54 #[.pointer (some ⟨X.mm,0,none⟩),.agg #[.bool p.p,.int .i64 p.n]] w fun e w'=>zD X w g (m.giveS v) e w':=by
 obtain⟨vp,vn⟩:=p
 simp only
 obtain⟨j1,m1,a1,o1⟩:=zbe h (.cells #[.bool vp,.int .i64 vn] 67)
 have HL:Hid _:=zgu j1 hn hsb hvb htb
 have HB:Hid (_/\_/\_):=⟨m1,a1,o1⟩
 have Hpv:Hid (_/\_/\_):=⟨hpv,hwf,hk0⟩
 have Hvl:Hid (m.s.leave.vA.length+1<=1000000000):=by
  unfold Hid St.leave
  simp only[List.length_take]
  omega
 clear h j1 m1 a1 o1 hn hsb hvb htb hvl hpv hwf hk0
 go_enter Tryz.func54,Tryz.ntmps54
 go_wp2_with fail
 generalize w.alloc _=w1 at *
 refine cM HL.o ?_
 rintro e w2 ⟨rfl,g2,hJ2,hm2⟩
 obtain⟨mv,a1,o1⟩:=HB.o
 obtain⟨o1r,k1r⟩:=o1.mv hm2
 obtain⟨f0,f1,_,_,f2⟩:=zaa (k1r.trans a1)
 obtain⟨q,cap,hv,_⟩:=zah hJ2.oc
 have c0:w2.cell? ⟨X.mm,30,none⟩=some (.slice q g2.s.cA.length cap):=by rw[<-hv];exact hJ2.box.rows.1
 have c1:=hJ2.box.lt
 have hcl:g2.s.cA.length=m.s.leave.cA.length:=hJ2.clen
 have HJ2:Hid (_/\_):=⟨hJ2,mv.trans hm2⟩
 rw[hcl] at c0
 clear hv hJ2 hm2 mv a1 o1 o1r k1r hcl
 by_cases h0:m.s.leave.cA.length=0
 ·have Q:Hid (zD X w g (m.giveS v) (.returned (.int .i64 1)) w2):=by
   unfold Hid AM.giveS
   rw[if_pos h0]
   refine zD.of 1 rfl (g':=g2) (R':=R) ?_ HJ2.o.2
   have:=HJ2.o.1
   rw[<-AM.k0_s m Hpv.o.2.2 m.s.leave] at this
   exact this
  rw[h0] at c0
  clear h0
  go_wp2_with fail
  exact bR (by simp[results,Tryz.results54,go_sem]) Q.o
 ·have h0':((m.s.leave.cA.length:Int) == 0)=false:=by
   simp
   intro e
   rw[e] at h0
   exact h0 rfl
  have HP:Hid _:=zgl HJ2.o.1 ⟨vp,vn⟩ v Hpv.o.1 Hpv.o.2.1 Hvl.o
  go_wp2_with fail
  refine cM HP.o ?_
  rintro e w3 ⟨rfl,g3,hp⟩
  have Q:Hid (zD X w g (m.giveS v) (.returned (.int .i64 0)) w3):=by
   unfold Hid AM.giveS
   rw[if_neg h0]
   refine zD.of 0 rfl (g':=g3) (R':=R) ?_ (HJ2.o.2.trans hp.mv)
   have:=hp.j
   rw[<-AM.k0_s m Hpv.o.2.2 (m.s.leave.put v)] at this
   exact this
  clear h0 hp h0' c0 c1 f0 f1 f2
  go_wp2_with fail
  exact bR (by simp[results,Tryz.results54,go_sem]) Q.o
end
def handS(s:St)(v:Cl):St:={cA:=s.cA.dropLast++[{s.cur with pc:=((s.tA.getLast?).getD default).pc}],sA:=s.sA,vA:=s.vA.take (min s.vA.length (s.cur.vb+((s.tA.getLast?).getD default).vals))++[v],tA:=s.tA.dropLast}
section
variable{X:Fx}{w:World}{g:Pg}{m:AM}{R:Int->Int->Prop}
theorem J.tryAt(h:J X w g m R)(ht:0 < g.s.tA.length):∃ gt cap,g.vt=.slice (some ⟨gt,0,none⟩) g.s.tA.length cap/\∀ wx,Kp [] w wx->wx.cell? ⟨gt,(g.s.tA.length - 1) * 2,none⟩=some (.int .i64 ((g.s.tA.getLast?).getD default).pc)/\wx.cell? ⟨gt,(g.s.tA.length - 1) * 2+1,none⟩=some (.int .i64 ((g.s.tA.getLast?).getD default).vals)/\gt < wx.heap.size:=by
 rcases zbg h.ot with⟨_,h0⟩ | ⟨gt,cap,cur,hv,hb,hh,hc,_,hs,hx⟩
 ·omega
 ·refine⟨gt,cap,hv,fun wx hk=>?_⟩
  have hh1:=(hk.block gt (sz hh) (by simp)).trans hh
  have e0:=zcr trV 2 zks g.s.tA (g.s.tA.length - 1) (by omega) 0 (by omega)
  have e1:=zcr trV 2 zks g.s.tA (g.s.tA.length - 1) (by omega) 1 (by omega)
  have x0:=hx ((g.s.tA.length - 1) * 2+0) (by omega)
  have x1:=hx ((g.s.tA.length - 1) * 2+1) (by omega)
  rw[show zf0 g.s.tA=g.s.tA.flatMap trV from rfl] at x0 x1
  rw[e0] at x0
  rw[e1] at x1
  rw[zcv ht]
  refine⟨?_,?_,(sz hh1)⟩
  ·simp only[World.cell?,hh1]
   exact x0
  ·simp only[World.cell?,hh1]
   exact x1
theorem zn5(h:J X w g m R)(hn:0 < m.s.cA.length)(htb:m.s.cur.tb < m.s.tA.length)(hvb:m.s.cur.vb<=m.s.vA.length)(hvl:m.s.vA.length+1<=1000000000)(htv:((m.s.tA.getLast?).getD default).vals<=1000000000){gc cap:Nat}(hvc:g.vc=.slice (some ⟨gc,0,none⟩) g.s.cA.length cap)(p v:Cl)(hpv:zI R p v)(hwf:wfC p):Calls Tryz.prog 83 #[.pointer (some ⟨X.mm,0,none⟩),.pointer (some ⟨gc,(g.s.cA.length - 1) * 9,none⟩),.agg #[.bool p.p,.int .i64 p.n]] w fun e w'=>e=.returned (.tuple #[])/\∃ g',J X w' g' {m with s:=handS m.s v} R/\Mv X w g w' g':=by
 obtain⟨vp,vn⟩:=p
 simp only
 have hcl:=h.clen
 have hvlen:=h.vlen
 have hcu:=h.cur hn
 have htr:=h.st.tr
 obtain⟨gc2,cap2,hvc2,hcur⟩:=h.curAt (by omega)
 rw[hvc] at hvc2
 cases hvc2
 obtain⟨gt,ct,hvt,htry⟩:=h.tryAt (by rw[htr];omega)
 obtain⟨qv,cv,hvv,hcv,hqv,hzv⟩:=zah h.ov
 obtain⟨_,ctx,hvtx,hctx,-⟩:=zah h.ot
 rw[hvt] at hvtx
 cases hvtx
 rw[htr] at htry hvt hctx
 obtain⟨lt,hlt⟩:∃ lt,lt=m.s.tA.length - 1:=⟨_,rfl⟩
 generalize hLT:(m.s.tA.getLast?).getD default=LT at *
 obtain⟨tpc,tvl⟩:=LT
 simp only at htry htv
 obtain⟨j1,m1,a1,o1⟩:=zbe h (.cells #[.bool vp,.int .i64 vn] 67)
 have hk2:Kp [] (w.alloc (.cells #[.bool vp,.int .i64 vn] 67)) ((w.alloc (.cells #[.bool vp,.int .i64 vn] 67)).alloc (.cells #[.int .i64 (tpc:Int),.int .i64 (tvl:Int)] 137)):=kA
 have j2:=j1.kp hk2
 have hvtg:g.vt=.slice (some ⟨gt,0,none⟩) g.s.tA.length ct:=by rw[htr];exact hvt
 have hcut:=j2.cutT (q:=some ⟨gt,0,none⟩) (cap:=ct) hvtg (j:=lt) (by rw[htr];omega) 0
 have hJ3:J X (((w.alloc (.cells #[.bool vp,.int .i64 vn] 67)).alloc (.cells #[.int .i64 (tpc:Int),.int .i64 (tvl:Int)] 137)).setCell ⟨X.mm,33,none⟩ (.slice (some ⟨gt,0,none⟩) lt ct)) (g.setT (.slice (some ⟨gt,0,none⟩) lt ct) (g.s.tA.take lt)) (m.setT (g.s.tA.take lt)) R:=hcut.1
 have hm3:Mv X ((w.alloc (.cells #[.bool vp,.int .i64 vn] 67)).alloc (.cells #[.int .i64 (tpc:Int),.int .i64 (tvl:Int)] 137)) g (((w.alloc (.cells #[.bool vp,.int .i64 vn] 67)).alloc (.cells #[.int .i64 (tpc:Int),.int .i64 (tvl:Int)] 137)).setCell ⟨X.mm,33,none⟩ (.slice (some ⟨gt,0,none⟩) lt ct)) (g.setT (.slice (some ⟨gt,0,none⟩) lt ct) (g.s.tA.take lt)):=hcut.2
 have o2:Off X ((w.alloc (.cells #[.bool vp,.int .i64 vn] 67)).alloc (.cells #[.int .i64 (tpc:Int),.int .i64 (tvl:Int)] 137)) g (w.heap.size+1):=by
  have:=j1.off (w':=((w.alloc (.cells #[.bool vp,.int .i64 vn] 67)).alloc (.cells #[.int .i64 (tpc:Int),.int .i64 (tvl:Int)] 137))) (b:=(w.alloc (.cells #[.bool vp,.int .i64 vn] 67)).heap.size) (Nat.le_refl _) (by simp)
  rw[size_alloc] at this
  exact this
 have a2:((w.alloc (.cells #[.bool vp,.int .i64 vn] 67)).alloc (.cells #[.int .i64 (tpc:Int),.int .i64 (tvl:Int)] 137)).heap[w.heap.size+1]? = some (.cells #[.int .i64 (tpc:Int),.int .i64 (tvl:Int)] 137):=by
  have:=zab (w.alloc (.cells #[.bool vp,.int .i64 vn] 67)) (.cells #[.int .i64 (tpc:Int),.int .i64 (tvl:Int)] 137)
  rw[size_alloc] at this
  exact this
 have a1':=zaj a1 (.cells #[.int .i64 (tpc:Int),.int .i64 (tvl:Int)] 137)
 have o1':=o1.alloc (.cells #[.int .i64 (tpc:Int),.int .i64 (tvl:Int)] 137)
 obtain⟨o13,k13⟩:=o1'.mv hm3
 obtain⟨o23,k23⟩:=o2.mv hm3
 have HS:Hid (_/\_/\_/\_/\_/\_):=⟨hJ3,m1.trans ((Mv.zk hk2).trans hm3),k13.trans a1',o13,k23.trans a2,o23⟩
 obtain⟨t0,t1,t2⟩:=htry (w.alloc (.cells #[.bool vp,.int .i64 vn] 67)) kA
 have c33:(w.alloc (.cells #[.bool vp,.int .i64 vn] 67)).cell? ⟨X.mm,33,none⟩=some (.slice (some ⟨gt,0,none⟩) m.s.tA.length ct):=by rw[<-hvt];exact j1.box.rows.2.2.2.1
 have c33b:((w.alloc (.cells #[.bool vp,.int .i64 vn] 67)).alloc (.cells #[.int .i64 (tpc:Int),.int .i64 (tvl:Int)] 137)).cell? ⟨X.mm,33,none⟩=some (.slice (some ⟨gt,0,none⟩) m.s.tA.length ct):=by rw[<-hvt];exact j2.box.rows.2.2.2.1
 have clm:=j1.box.lt
 have clm2:=j2.box.lt
 have z33:=j2.box.frozen 33
 have hw1:IntKind.i64.wrap ((m.s.tA.length:Int) - 1)=(lt:Int):=by rw[IntKind.wrap_i64];have:=h.len.2.2.2.1;rw[htr] at this;omega
 have hidx:(lt:Int) < (m.s.tA.length:Int):=by omega
 have hsl:=zk1 (some ⟨gt,0,none⟩) m.s.tA.length ct lt (by intro e;cases e) (by intro a e;cases e;rfl) (by omega)
 rw[<-hlt] at t0 t1
 have HX:Hid (_/\_/\_/\_/\_/\_/\_/\_/\_):=⟨hcu.vb,hvlen,hvb,hvl,htv,htr,hcl,hn,hlt⟩
 have HV:Hid (_/\_):=⟨hvv,hvc⟩
 have Hsl:Hid (∀ nv,nv<=g.s.vA.length->∀ wx:World,_):=fun nv hnv=>zh8 qv g.s.vA.length cv nv hqv hzv (by omega)
 have HC:Hid (∀ wx,Kp [] w wx->wx.cell? ⟨gc,(g.s.cA.length - 1) * 9+7,none⟩=some (.int .i64 g.s.cur.vb)/\gc < wx.heap.size):=fun wx hx=>⟨(hcur wx hx).2.1 7 (by omega),(hcur wx hx).2.2⟩
 have Hpv:Hid (_/\_/\_):=⟨hpv,hwf,hLT⟩
 clear hlt
 clear j1 m1 a1 o1 hk2 j2 hvtg hcut hJ3 hm3 o2 a2 a1' o1' o13 k13 o23 k23 htry hvt hvv hcv hqv hzv hctx hcur hcl hvlen hcu htr hpv hwf hLT hn htb hvb hvl htv hvc h
 go_enter Tryz.func83,Tryz.ntmps83
 go_upto_region 4 with fail
 clear t0 t1 t2 c33 c33b clm clm2 z33 hw1 hidx hsl
 generalize ((w.alloc _).alloc _).setCell _ _=w3 at *
 obtain⟨hJ3,hm3,b1,o1,b2,o2⟩:=HS.o
 obtain⟨gc2,cap2,hvc2,hcur2⟩:=hJ3.curAt (by have:=HX.o;show 0 < g.s.cA.length;omega)
 have hgc:gc2=gc:=by
  have e1:g.vc=.slice (some ⟨gc2,0,none⟩) g.s.cA.length cap2:=hvc2
  rw[HV.o.2] at e1
  cases e1
  rfl
 subst hgc
 obtain⟨nv,hnv⟩:∃ nv,nv=min g.s.vA.length (g.s.cur.vb+tvl):=⟨_,rfl⟩
 have hminI:min (g.s.vA.length:Int) ((g.s.cur.vb:Int)+(tvl:Int))=(nv:Int):=by rw[hnv];omega
 have hwa:IntKind.i64.wrap ((g.s.cur.vb:Int)+(tvl:Int))=(g.s.cur.vb:Int)+(tvl:Int):=by rw[IntKind.wrap_i64];have:=HX.o;omega
 have hsl:=Hsl.o nv (by rw[hnv];exact Nat.min_le_left _ _)
 have HF:Hid (∀ wx,Kp [] w3 wx->wx.cell? ⟨X.mm,32,none⟩=some (.slice qv g.s.vA.length cv)/\X.mm < wx.heap.size/\wx.cell? ⟨gc2,(g.s.cA.length - 1) * 9+7,none⟩=some (.int .i64 g.s.cur.vb)/\gc2 < wx.heap.size/\wx.cell? ⟨w.heap.size+1,1,none⟩=some (.int .i64 tvl)/\w.heap.size+1 < wx.heap.size):=fun wx hx=>by
  have hb:=hJ3.box.kp hx (by simp)
  have e2:=(hcur2 wx hx).2.1 7 (by omega)
  have e3:=(hx.block _ o2.1 (by simp)).trans b2
  refine⟨by rw[<-HV.o.1];exact hb.rows.2.2.1,hb.lt,e2,(hcur2 wx hx).2.2,?_,(sz e3)⟩
  simp[World.cell?,e3]
 have hcut:=hJ3.cutV (q:=qv) (cap:=cv) (show(g.setT (.slice (some ⟨gt,0,none⟩) lt ct) (g.s.tA.take lt)).vv=_ from HV.o.1) (j:=nv) (by rw[hnv];exact Nat.min_le_left _ _) 1
 have z32:=(hJ3.kp ((Kp.refl [] w3).drew)).box.frozen 32
 have HS2:Hid (∃ g4,VPost X w3 (g.setT (.slice (some ⟨gt,0,none⟩) lt ct) (g.s.tA.take lt)) ((m.setT (g.s.tA.take lt)).setV (m.s.vA.take nv)) R (w3.setCell ⟨X.mm,32,none⟩ (.slice qv nv cv)).drew g4):=⟨_,hcut⟩
 have Hnv:Hid (nv=min m.s.vA.length (m.s.cur.vb+tvl)):=by
  unfold Hid
  rw[hnv,HX.o.1,HX.o.2.1]
 clear hJ3 hm3 b1 o1 b2 o2 hvc2 hcur2 hcut hnv
 generalize g.s.cur.vb=vbn at *
 generalize hvn:g.s.vA.length=vln at *
 clear hvn
 refine zan 21 (C:=fun wx=>Kp [] w3 wx) (by kernel_rfl) ?_
 refine qT 0 rfl ?_
 apply xI
 (intro wx hwx;go_simp <;> rfl)
 refine qT 1 rfl ?_
 apply xI
 (intro wx hwx;go_simp <;> rfl)
 refine qT 2 rfl ?_
 apply xI
 (intro wx hwx;go_simp <;> rfl)
 refine qT 3 rfl ?_
 apply xI
 (intro wx hwx;go_simp <;> rfl)
 refine qT 4 rfl ?_
 apply xI
 (intro wx hwx;obtain⟨p1,p2,p3,p4,p5,p6⟩:=HF.o wx hwx;go_simp <;> rfl)
 refine qT 5 rfl ?_
 apply xI
 (intro wx hwx;go_simp <;> rfl)
 refine qT 6 rfl ?_
 apply xI
 (intro wx hwx;go_simp <;> rfl)
 refine qT 7 rfl ?_
 apply xI
 (intro wx hwx;go_simp <;> rfl)
 refine qT 8 rfl ?_
 apply xI
 (intro wx hwx;obtain⟨p1,p2,p3,p4,p5,p6⟩:=HF.o wx hwx;go_simp <;> rfl)
 refine qT 9 rfl ?_
 apply xI
 (intro wx hwx;go_simp <;> rfl)
 refine qT 10 rfl ?_
 apply xI
 (intro wx hwx;go_simp <;> rfl)
 refine qT 11 rfl ?_
 apply xI
 (intro wx hwx;go_simp <;> rfl)
 refine qT 12 rfl ?_
 apply xI
 (intro wx hwx;go_simp <;> rfl)
 refine qT 13 rfl ?_
 apply xI
 (intro wx hwx;obtain⟨p1,p2,p3,p4,p5,p6⟩:=HF.o wx hwx;go_simp <;> rfl)
 refine qT 14 rfl ?_
 apply xI
 (intro wx hwx;go_simp <;> rfl)
 refine qT 15 rfl ?_
 apply xI
 (intro wx hwx;obtain⟨p1,p2,p3,p4,p5,p6⟩:=HF.o wx hwx;go_simp <;> rfl)
 refine qT 16 rfl ?_
 apply xI
 (intro wx hwx;go_simp <;> rfl)
 refine qT 17 rfl ?_
 apply xI
 (intro wx hwx;go_simp <;> rfl)
 refine qT 18 rfl ?_
 apply xI
 (intro wx hwx;go_simp <;> rfl)
 refine qT 19 rfl ?_
 apply xI
 (intro wx hwx;go_simp <;> rfl)
 refine qT 20 rfl ?_
 apply xI
 (intro wx hwx;go_simp <;> rfl)
 obtain⟨p1,p2,p3,p4,p5,p6⟩:=HF.o _ (Kp.refl [] w3).drew
 refine oL 21 (Kp.refl [] w3).drew rfl (fun K hK=>?_)
 go_simp
 refine hK _ _ ?_
 clear hK K
 refine zas (by kernel_rfl) (by kernel_rfl) ?_
 go_simp
 obtain⟨g4,hp4⟩:=HS2.o
 obtain⟨hJ3,hm3,b1,o1,b2,o2⟩:=HS.o
 obtain⟨o14,k14⟩:=o1.mv hp4.mv
 obtain⟨o24,k24⟩:=o2.mv hp4.mv
 have b14:=k14.trans b1
 have b24:=k24.trans b2
 have HP:Hid _:=zgl hp4.j ⟨vp,vn⟩ v Hpv.o.1 Hpv.o.2.1 (by have:=HX.o;show(m.s.vA.take nv).length+1<=_;rw[List.length_take];omega)
 have HS4:Hid (_/\_/\_/\_):=⟨hp4,hm3,b24,o24⟩
 obtain⟨v0,v1,-,-,v2⟩:=zaa b14
 clear hp4 hJ3 hm3 b1 o1 b2 o2 o14 k14 o24 k24 b14 b24 p1 p2 p3 p4 p5 p6 hwa hminI hsl z32
 generalize (w3.setCell _ _).drew=w4 at *
 go_wp2_with fail
 refine cM HP.o ?_
 rintro e w5 ⟨rfl,g5,hp5⟩
 obtain⟨hp4,hm3,b24,o24⟩:=HS4.o
 obtain⟨o25,k25⟩:=o24.mv hp5.mv
 have b25:=k25.trans b24
 have hvc5:g5.vc=.slice (some ⟨gc2,0,none⟩) g.s.cA.length cap:=by rw[hp5.vc,hp4.vc];exact HV.o.2
 have hcl5:g5.s.cA=g.s.cA:=by rw[hp5.cA,hp4.cA];rfl
 have hn5:0 < g5.s.cA.length:=by rw[hcl5];have:=HX.o;omega
 obtain⟨gc6,cap6,hvc6,hcur6⟩:=hp5.j.curAt hn5
 rw[hvc5,hcl5] at hvc6
 cases hvc6
 have e5:=(hcur6 w5 kr).2.1 5 (by omega)
 have e6:=(hcur6 w5 kr).2.2
 have hpc:=hp5.j.setPc (by have:=HX.o;show 0 < m.s.cA.length;omega) (gc:=gc2) (cap:=cap) (by rw[hvc5,hcl5]) tpc
 rw[hcl5] at e5 hpc
 obtain⟨_,curk,hck⟩:=(hp5.j).tc gc2 (by rw[hvc5];rfl)
 have z5:w5.frozen? ⟨gc2,(g.s.cA.length - 1) * 9+5,none⟩=false:=by simp[World.frozen?,hck]
 have t0:w5.cell? ⟨w.heap.size+1,0,none⟩=some (.int .i64 tpc):=by simp[World.cell?,b25]
 have t1:w.heap.size+1 < w5.heap.size:=(sz b25)
 have Q:Hid (∃ g',J X (w5.setCell ⟨gc2,(g.s.cA.length - 1) * 9+5,none⟩ (.int .i64 tpc)) g' {m with s:=handS m.s v} R/\Mv X w g (w5.setCell ⟨gc2,(g.s.cA.length - 1) * 9+5,none⟩ (.int .i64 tpc)) g'):=by
  refine⟨_,?_,(hm3.trans (hp4.mv.trans (hp5.mv.trans hpc.2)))⟩
  have e7:({m with s:=handS m.s v} : AM)={({((m.setT (g.s.tA.take lt)).setV (m.s.vA.take nv)) with s:=((m.setT (g.s.tA.take lt)).setV (m.s.vA.take nv)).s.put v} : AM) with s:=(((m.setT (g.s.tA.take lt)).setV (m.s.vA.take nv)).s.put v).goto tpc}:=by
   unfold handS AM.setT AM.setV St.put St.goto St.cur
   rw[Hpv.o.2.2,HX.o.2.2.2.2.2.1,show m.s.tA.dropLast=m.s.tA.take (m.s.tA.length - 1) from List.dropLast_eq_take,HX.o.2.2.2.2.2.2.2.2,Hnv.o]
   rfl
  rw[e7]
  exact hpc.1
 clear hp5 hp4 hm3 b24 o24 o25 k25 b25 hvc5 hcl5 hn5 hcur6 hpc hck v0 v1 v2
 go_wp2_with fail
 exact bodyPost_end (v:=.tuple #[]) (results_none rfl _ _ _) rfl ⟨rfl,Q.o⟩
end
end Go.Proofs.YtkcmachfagcnaaaGreatDoor
