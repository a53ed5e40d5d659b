/- Part of Greater. -/
import Derived.Test.YtkcmachfagcnaaaGreatDoorB35
set_option maxHeartbeats 8000000
set_option maxRecDepth 100000
namespace Go.Proofs.YtkcmachfagcnaaaGreatDoor
open Go.RowKit Go.Deep Go.IntWalk
open C12 (zX zF Cd Fn In zT)
section
variable{X:Fx}{w:World}{g:Pg}{m:AM}{R:Int->Int->Prop}
structure Rc(X:Fx)(b:Nat)(o:Obj)(wx:World):Prop where
 bx:wx.heap[b]? = some o
 mb:∃ g m,MBx wx X.mm (mfOf X g m)
 bl:Below X.wc.heap.size X.wc wx
theorem J.rc(h:J X w g m R){b:Nat}{o:Obj}(hb:w.heap[b]? = some o):Rc X b o w:=⟨hb,⟨g,m,h.box⟩,h.bl⟩
theorem zP.rc{w1:World}{g1:Pg}{a:Act1}{e:Ending}{w2:World}(h:zP X w1 g1 m a e w2){b:Nat}{o:Obj}(hb:w1.heap[b]? = some o)(ho:Off X w1 g1 b):Rc X b o w2:=by
 cases h with
 | fail f m' hf w' g' R' hJ hm2=>exact hJ.rc ((ho.mv hm2).2.trans hb)
 | val p v m' hv w' g' R' hJ hp hw hm2=>exact hJ.rc ((ho.mv hm2).2.trans hb)
theorem Rc.set2{b c:Nat}{o:Obj}{wx:World}(h:Rc X b o wx)(hb:b≠c)(hm:X.mm≠c)(hc:X.wc.heap.size<=c)(u1 u2:Value):Rc X b o ((wx.setCell ⟨c,0,none⟩ u1).setCell ⟨c,1,none⟩ u2):=by
 obtain⟨h0,⟨g,m,h1⟩,h2⟩:=h
 refine⟨(zb7 hb).trans h0,⟨g,m,(zb7 hm).trans h1⟩,h2.trans ?_⟩
 exact((Kp.setCell (X:=[c]) wx ⟨c,0,none⟩ (by simp) u1).trans (Kp.setCell (X:=[c]) _ ⟨c,1,none⟩ (by simp) u2)).below h2.size (fun x hx=>by rw[List.mem_singleton.1 hx];exact hc)
theorem Rc.text{b:Nat}{o:Obj}{wx:World}(h:Rc X b o wx){tb to_ i:Nat}{s:ByteArray}(hb:tb < X.wc.heap.size)(hc:X.wc.cell? ⟨tb,to_+i,none⟩=some (.string s)):wx.cell? ⟨tb,to_+i,none⟩=some (.string s)/\tb < wx.heap.size:=⟨(h.bl.cell (p:=⟨tb,to_+i,none⟩) hb).trans hc,lL hb h.bl.size⟩
theorem zb9{w1:World}{b:Nat}{c0 c1 c2:Value}(hb:w1.heap[b]? = some (.cells #[c0,c1,c2] 44)):w1.cell? ⟨b,0,none⟩=some c0/\w1.cell? ⟨b,1,none⟩=some c1/\w1.cell? ⟨b,2,none⟩=some c2/\b < w1.heap.size:=by
 refine⟨?_,?_,?_,(sz hb)⟩ <;> simp[World.cell?,hb]
theorem zm7(h:J X w g m R)(hn:0 < m.s.cA.length)(hnx:m.next+1<=1000000000)(hT:zX X.wc X.pt X.cd.texts)(htx:∀ t∈X.cd.texts,t.size<=200)(i:Nat)(b:Int)(hi:i < X.cd.texts.length):Calls Tryz.prog 58 #[.pointer (some ⟨X.mm,0,none⟩),.agg #[.int .i64 1,.int .i64 (i:Int),.int .i64 b]] w fun e w'=>zP X w g m (.make (zTT ((X.cd.texts[i]?).getD ⟨#[]⟩).data.toList)) e w':=by
 obtain⟨w1,hw1,HB,HJ⟩:=pre2W h (.cells #[.int .i64 1,.int .i64 (i:Int),.int .i64 b] 44) (.cells #[.bool false,.int .i64 0] 67)
 generalize hA:(.make (zTT ((X.cd.texts[i]?).getD ⟨#[]⟩).data.toList):Act1)=act
 have HA:=zh hA
 clear hA
 obtain⟨tb,to_,hpt,htb,hcell⟩:=hT.get i hi
 have hlenT:=hT.len
 rw[gE hi,Option.getD_some] at HA
 have hsz:=htx _ (List.getElem_mem hi)
 generalize X.cd.texts[i]'hi=s at *
 have HM:=zh (fun wx (hx:Kp [] w1 wx)=>ze0 (HJ.o.kp hx) hn hnx s hsz)
 have HF:Hid (∀ wx,Rc X w.heap.size (.cells #[.int .i64 1,.int .i64 (i:Int),.int .i64 b] 44) wx->wx.cell? ⟨X.mm,0,none⟩=some (.slice (some ⟨tb,to_,none⟩) X.cd.texts.length X.ct)/\X.mm < wx.heap.size/\wx.cell? ⟨w.heap.size,1,none⟩=some (.int .i64 (i:Int))/\w.heap.size < wx.heap.size/\wx.cell? ⟨tb,to_+i,none⟩=some (.string s)/\tb < wx.heap.size):=fun wx hx=>by
  obtain⟨f0,f1,f2,f3⟩:=zb9 hx.bx
  obtain⟨g5,m5,hb5⟩:=hx.mb
  have e5:=hb5.code
  have e6:=hx.text htb hcell
  rw[<-hpt]
  exact⟨e5.1,e5.2.2,f1,f3,e6.1,e6.2⟩
 have hiI:(i:Int) < (X.cd.texts.length:Int):=by omega
 clear h hn hnx hT htx hpt htb hcell hsz hi hlenT
 generalize X.cd.texts.length=nt at *
 go_enter Tryz.func58,Tryz.ntmps58
 go_upto_region 6 with fail
 rw[<-hw1.out]
 have HR:=zh ((HJ.o.kp (Kp.refl [] w1).drew).rc HB.o.2.1)
 have Hmm:Hid (X.mm≠w.heap.size+1):=fun e=>HB.o.2.2.2.2.1.2 (by rw[<-e];exact za3)
 refine zao (C:=fun wx=>Rc X w.heap.size (.cells #[.int .i64 1,.int .i64 (i:Int),.int .i64 b] 44) wx) (by kernel_rfl) ?_
 refine qA 0 rfl ?_
 apply xI
 (intro wx hwx;go_simp <;> rfl)
 refine qA 1 rfl ?_
 apply xI
 (intro wx hwx;go_simp <;> rfl)
 refine qA 2 rfl ?_
 apply xI
 (intro wx hwx;go_simp <;> rfl)
 refine qA 3 rfl ?_
 apply xI
 (intro wx hwx;go_simp <;> rfl)
 refine qA 4 rfl ?_
 apply xI
 (intro wx hwx;go_simp <;> rfl)
 refine qA 5 rfl ?_
 apply xI
 (intro wx hwx;obtain⟨x0,x1,x2,x3,x4,x5⟩:=HF.o wx hwx;go_simp <;> rfl)
 refine qA 6 rfl ?_
 apply xI
 (intro wx hwx;go_simp <;> rfl)
 refine qA 7 rfl ?_
 apply xI
 (intro wx hwx;obtain⟨x0,x1,x2,x3,x4,x5⟩:=HF.o wx hwx;go_simp <;> rfl)
 refine qA 8 rfl ?_
 apply xI
 (intro wx hwx;go_simp <;> rfl)
 refine qA 9 rfl ?_
 apply xI
 (intro wx hwx;obtain⟨x0,x1,x2,x3,x4,x5⟩:=HF.o wx hwx;go_simp <;> rfl)
 refine oA 10 HR.o rfl (fun K hK=>?_)
 go_simp
 refine cM (HM.o _ (Kp.refl [] w1).drew) ?_
 intro e9 w9 q
 obtain⟨mv,a1,o1,a2,o2,hwc⟩:=HB.o
 have hk8:=(Kp.refl [] w1).drew
 obtain⟨pp,pn,pf9,rfl,hb9,hQ⟩:=q.lift (w:=w) (g:=g) (b:=w.heap.size+1) (mv.trans (Mv.zk hk8)) (zad a2 hk8) ⟨lL o2.1 hk8.size,o2.2⟩ (by omega) hwc
 have hC9:=q.rc (zad a1 hk8) ⟨lL o1.1 hk8.size,o1.2⟩
 refine hK _ _ ?_
 clear hK K
 obtain⟨y0,y1,z0,z1,cl⟩:=zaa hb9
 obtain⟨d0,d1,_⟩:=zaa (zae hb9 (.bool pp) (.int .i64 pn))
 rw[HA.o] at hQ
 have Q:=zh hQ
 have HC9:Hid (Rc X w.heap.size (.cells #[.int .i64 1,.int .i64 (i:Int),.int .i64 b] 44) ((w9.setCell ⟨w.heap.size+1,0,none⟩ (.bool pp)).setCell ⟨w.heap.size+1,1,none⟩ (.int .i64 pn))):=hC9.set2 (by omega) Hmm.o (by omega) _ _
 have hD9:=zh hC9
 clear mv a1 o1 a2 o2 hwc hb9 hQ q hk8 hC9 hiI
 refine qA 11 rfl ?_
 apply xI
 (intro wx hwx;go_simp <;> rfl)
 refine qA 12 rfl ?_
 apply xI
 (intro wx hwx;go_simp <;> rfl)
 refine oA 13 hD9.out rfl (fun K hK=>?_)
 go_simp
 refine hK _ _ ?_
 clear hK K
 refine oA 14 HC9.o rfl (fun K hK=>?_)
 go_simp
 refine hK _ _ ?_
 clear hK K
 refine zag HC9.o (by kernel_rfl) ?_
 go_simp
 clear hD9
 go_wp2_with fail
 exact bR (by simp[results,Tryz.results58,go_sem,d0,d1]) Q.o
theorem zkm(h:J X w g m R)(hn:0 < m.s.cA.length)(hnx:m.next+1<=1000000000)(hF:zF X.wc X.pf X.cd.funs)(i:Nat)(b:Int)(hi:i < X.cd.funs.length)(hi6:i<=65535)(k:Nat)(hfk:((X.cd.funs[i]?).getD default).free=(k:Int))(hk6:k<=65535)(hv:k<=m.s.vA.length):Calls Tryz.prog 58 #[.pointer (some ⟨X.mm,0,none⟩),.agg #[.int .i64 13,.int .i64 (i:Int),.int .i64 b]] w fun e w'=>zP X w g m (.make ⟨1,(i:Int),m.s.lastN k⟩) e w':=by
 obtain⟨w1,hw1,HB,HJ⟩:=pre2W h (.cells #[.int .i64 13,.int .i64 (i:Int),.int .i64 b] 44) (.cells #[.bool false,.int .i64 0] 67)
 generalize hA:(.make ⟨1,(i:Int),m.s.lastN k⟩:Act1)=act
 have HA:=zh hA
 clear hA
 obtain⟨tb,to_,q,cap,hpt,htb,hcell,-⟩:=hF.get i hi
 have hlenT:=hF.len
 rw[gE hi,Option.getD_some] at hfk
 have hc0:=hcell.c0
 rw[hfk] at hc0
 have HM:=zh (fun wx (hx:Kp [] w1 wx)=>zf3 (HJ.o.kp hx) hn hnx 1 (i:Int) k (by omega) hv)
 have HF:Hid (∀ wx,Rc X w.heap.size (.cells #[.int .i64 13,.int .i64 (i:Int),.int .i64 b] 44) wx->wx.cell? ⟨X.mm,1,none⟩=some (.slice (some ⟨tb,to_,none⟩) X.cd.funs.length X.cf)/\X.mm < wx.heap.size/\wx.cell? ⟨w.heap.size,1,none⟩=some (.int .i64 (i:Int))/\w.heap.size < wx.heap.size/\wx.cell? ⟨tb,to_+i * 3,none⟩=some (.int .i64 (k:Int))/\tb < wx.heap.size):=fun wx hx=>by
  obtain⟨f0,f1,f2,f3⟩:=zb9 hx.bx
  obtain⟨g5,m5,hb5⟩:=hx.mb
  have e5:=hb5.code
  rw[<-hpt]
  exact⟨e5.2.1,e5.2.2,f1,f3,(hx.bl.cell (p:=⟨tb,to_+i * 3,none⟩) htb).trans hc0,lL htb hx.bl.size⟩
 have hiI:(i:Int) < (X.cd.funs.length:Int):=by omega
 clear h hn hnx hF hpt htb hcell hi hlenT hc0 hfk hk6 hv hi6
 generalize X.cd.funs.length=nt at *
 go_enter Tryz.func58,Tryz.ntmps58
 go_upto_region 18 with fail
 rw[<-hw1.out]
 have HR:=zh ((HJ.o.kp (Kp.refl [] w1).drew).rc HB.o.2.1)
 have Hmm:Hid (X.mm≠w.heap.size+1):=fun e=>HB.o.2.2.2.2.1.2 (by rw[<-e];exact za3)
 refine zao (C:=fun wx=>Rc X w.heap.size (.cells #[.int .i64 13,.int .i64 (i:Int),.int .i64 b] 44) wx) (by kernel_rfl) ?_
 refine qA 0 rfl ?_
 apply xI
 (intro wx hwx;go_simp <;> rfl)
 refine qA 1 rfl ?_
 apply xI
 (intro wx hwx;go_simp <;> rfl)
 refine qA 2 rfl ?_
 apply xI
 (intro wx hwx;obtain⟨x0,x1,x2,x3,x4,x5⟩:=HF.o wx hwx;go_simp <;> rfl)
 refine qA 3 rfl ?_
 apply xI
 (intro wx hwx;go_simp <;> rfl)
 refine qA 4 rfl ?_
 apply xI
 (intro wx hwx;go_simp <;> rfl)
 refine qA 5 rfl ?_
 apply xI
 (intro wx hwx;go_simp <;> rfl)
 refine qA 6 rfl ?_
 apply xI
 (intro wx hwx;go_simp <;> rfl)
 refine qA 7 rfl ?_
 apply xI
 (intro wx hwx;obtain⟨x0,x1,x2,x3,x4,x5⟩:=HF.o wx hwx;go_simp <;> rfl)
 refine qA 8 rfl ?_
 apply xI
 (intro wx hwx;go_simp <;> rfl)
 refine qA 9 rfl ?_
 apply xI
 (intro wx hwx;obtain⟨x0,x1,x2,x3,x4,x5⟩:=HF.o wx hwx;go_simp <;> rfl)
 refine qA 10 rfl ?_
 apply xI
 (intro wx hwx;go_simp <;> rfl)
 refine qA 11 rfl ?_
 apply xI
 (intro wx hwx;go_simp <;> rfl)
 refine qA 12 rfl ?_
 apply xI
 (intro wx hwx;obtain⟨x0,x1,x2,x3,x4,x5⟩:=HF.o wx hwx;go_simp <;> rfl)
 refine oA 13 HR.o rfl (fun K hK=>?_)
 go_simp
 refine cM (HM.o _ (Kp.refl [] w1).drew) ?_
 intro e9 w9 q
 obtain⟨mv,a1,o1,a2,o2,hwc⟩:=HB.o
 have hk8:=(Kp.refl [] w1).drew
 obtain⟨pp,pn,pf9,rfl,hb9,hQ⟩:=q.lift (w:=w) (g:=g) (b:=w.heap.size+1) (mv.trans (Mv.zk hk8)) (zad a2 hk8) ⟨lL o2.1 hk8.size,o2.2⟩ (by omega) hwc
 have hC9:=q.rc (zad a1 hk8) ⟨lL o1.1 hk8.size,o1.2⟩
 refine hK _ _ ?_
 clear hK K
 obtain⟨y0,y1,z0,z1,cl⟩:=zaa hb9
 obtain⟨d0,d1,_⟩:=zaa (zae hb9 (.bool pp) (.int .i64 pn))
 rw[HA.o] at hQ
 have Q:=zh hQ
 have HC9:Hid (Rc X w.heap.size (.cells #[.int .i64 13,.int .i64 (i:Int),.int .i64 b] 44) ((w9.setCell ⟨w.heap.size+1,0,none⟩ (.bool pp)).setCell ⟨w.heap.size+1,1,none⟩ (.int .i64 pn))):=hC9.set2 (by omega) Hmm.o (by omega) _ _
 have hD9:=zh hC9
 clear mv a1 o1 a2 o2 hwc hb9 hQ q hk8 hC9 hiI
 refine qA 14 rfl ?_
 apply xI
 (intro wx hwx;go_simp <;> rfl)
 refine qA 15 rfl ?_
 apply xI
 (intro wx hwx;go_simp <;> rfl)
 refine oA 16 hD9.out rfl (fun K hK=>?_)
 go_simp
 refine hK _ _ ?_
 clear hK K
 refine oA 17 HC9.o rfl (fun K hK=>?_)
 go_simp
 refine hK _ _ ?_
 clear hK K
 refine zag HC9.o (by kernel_rfl) ?_
 go_simp
 clear hD9
 go_wp2_with fail
 exact bR (by simp[results,Tryz.results58,go_sem,d0,d1]) Q.o
theorem zkn(h:J X w g m R)(hd:okD X.cd m.D)(hn:0 < m.s.cA.length)(hnx:m.next+1<=1000000000)(i:Nat)(b:Int)(hi:i < 15)(hv0:(if i=12\/i=14 then 0 else 1) < m.s.vA.length)(hok0:okC (m.s.top 0))(hok1:okC (m.s.top 1)):Calls Tryz.prog 58 #[.pointer (some ⟨X.mm,0,none⟩),.agg #[.int .i64 12,.int .i64 (i:Int),.int .i64 b]] w fun e w'=>zP X w g m (signA m.D i (m.s.top 1) (m.s.top 0)) e w':=by
 obtain⟨w1,hw1,HB,HJ⟩:=pre2W h (.cells #[.int .i64 12,.int .i64 (i:Int),.int .i64 b] 44) (.cells #[.bool false,.int .i64 0] 67)
 generalize hA:(signA m.D i (m.s.top 1) (m.s.top 0):Act1)=act
 have HA:=zh hA
 clear hA
 have HM:=zh (fun wx (hx:Kp [] w1 wx)=>zsm (HJ.o.kp hx) hd hn hnx i hi hv0 hok0 hok1)
 have HF:Hid (∀ wx,Rc X w.heap.size (.cells #[.int .i64 12,.int .i64 (i:Int),.int .i64 b] 44) wx->wx.cell? ⟨X.mm,3+i,none⟩=some (sg ((signS[i]?).getD []))/\X.mm < wx.heap.size/\wx.cell? ⟨w.heap.size,1,none⟩=some (.int .i64 (i:Int))/\w.heap.size < wx.heap.size):=fun wx hx=>by
  obtain⟨f0,f1,f2,f3⟩:=zb9 hx.bx
  obtain⟨g5,m5,hb5⟩:=hx.mb
  refine⟨?_,hb5.lt,f1,f3⟩
  rw[hb5.at]
  have hc:i=0\/i=1\/i=2\/i=3\/i=4\/i=5\/i=6\/i=7\/i=8\/i=9\/i=10\/i=11\/i=12\/i=13\/i=14:=by omega
  rcases hc with rfl | rfl | rfl | rfl | rfl | rfl | rfl | rfl | rfl | rfl | rfl | rfl | rfl | rfl | rfl <;> rfl
 have hiI:(i:Int) < 15:=by omega
 clear h hn hnx hd hv0 hok0 hok1 hi
 generalize (signS[i]?).getD []=sgi at *
 unfold sg at *
 go_enter Tryz.func58,Tryz.ntmps58
 go_upto_region 30 with fail
 rw[<-hw1.out]
 have HR:=zh ((HJ.o.kp (Kp.refl [] w1).drew).rc HB.o.2.1)
 have Hmm:Hid (X.mm≠w.heap.size+1):=fun e=>HB.o.2.2.2.2.1.2 (by rw[<-e];exact za3)
 refine zao (C:=fun wx=>Rc X w.heap.size (.cells #[.int .i64 12,.int .i64 (i:Int),.int .i64 b] 44) wx) (by kernel_rfl) ?_
 refine qA 0 rfl ?_
 apply xI
 (intro wx hwx;go_simp <;> rfl)
 refine qA 1 rfl ?_
 apply xI
 (intro wx hwx;go_simp <;> rfl)
 refine qA 2 rfl ?_
 apply xI
 (intro wx hwx;go_simp <;> rfl)
 refine qA 3 rfl ?_
 apply xI
 (intro wx hwx;obtain⟨x0,x1,x2,x3⟩:=HF.o wx hwx;go_simp <;> rfl)
 refine qA 4 rfl ?_
 apply xI
 (intro wx hwx;go_simp <;> rfl)
 refine qA 5 rfl ?_
 apply xI
 (intro wx hwx;go_simp <;> rfl)
 refine qA 6 rfl ?_
 apply xI
 (intro wx hwx;go_simp <;> rfl)
 refine qA 7 rfl ?_
 apply xI
 (intro wx hwx;obtain⟨x0,x1,x2,x3⟩:=HF.o wx hwx;go_simp <;> rfl)
 refine oA 8 HR.o rfl (fun K hK=>?_)
 go_simp
 refine cM (HM.o _ (Kp.refl [] w1).drew) ?_
 intro e9 w9 q
 obtain⟨mv,a1,o1,a2,o2,hwc⟩:=HB.o
 have hk8:=(Kp.refl [] w1).drew
 obtain⟨pp,pn,pf9,rfl,hb9,hQ⟩:=q.lift (w:=w) (g:=g) (b:=w.heap.size+1) (mv.trans (Mv.zk hk8)) (zad a2 hk8) ⟨lL o2.1 hk8.size,o2.2⟩ (by omega) hwc
 have hC9:=q.rc (zad a1 hk8) ⟨lL o1.1 hk8.size,o1.2⟩
 refine hK _ _ ?_
 clear hK K
 obtain⟨y0,y1,z0,z1,cl⟩:=zaa hb9
 obtain⟨d0,d1,_⟩:=zaa (zae hb9 (.bool pp) (.int .i64 pn))
 rw[HA.o] at hQ
 have Q:=zh hQ
 have HC9:Hid (Rc X w.heap.size (.cells #[.int .i64 12,.int .i64 (i:Int),.int .i64 b] 44) ((w9.setCell ⟨w.heap.size+1,0,none⟩ (.bool pp)).setCell ⟨w.heap.size+1,1,none⟩ (.int .i64 pn))):=hC9.set2 (by omega) Hmm.o (by omega) _ _
 have hD9:=zh hC9
 clear mv a1 o1 a2 o2 hwc hb9 hQ q hk8 hC9 hiI
 refine qA 9 rfl ?_
 apply xI
 (intro wx hwx;go_simp <;> rfl)
 refine qA 10 rfl ?_
 apply xI
 (intro wx hwx;go_simp <;> rfl)
 refine oA 11 hD9.out rfl (fun K hK=>?_)
 go_simp
 refine hK _ _ ?_
 clear hK K
 refine oA 12 HC9.o rfl (fun K hK=>?_)
 go_simp
 refine hK _ _ ?_
 clear hK K
 refine zag HC9.o (by kernel_rfl) ?_
 go_simp
 clear hD9
 go_wp2_with fail
 exact bR (by simp[results,Tryz.results58,go_sem,d0,d1]) Q.o
theorem zm4(h:J X w g m R)(hn:0 < m.s.cA.length)(i:Nat)(b:Int)(u:Th)(hp:m.s.cur.fn.p=true)(hu:m.D m.s.cur.fn.n=some u)(hi:i < u.fs.length):Calls Tryz.prog 58 #[.pointer (some ⟨X.mm,0,none⟩),.agg #[.int .i64 4,.int .i64 (i:Int),.int .i64 b]] w fun e w'=>zP X w g m (.give (getA m.D m.s.cur.fn.n i)) e w':=by
 obtain⟨w1,hw1,HB,HJ⟩:=pre2W h (.cells #[.int .i64 4,.int .i64 (i:Int),.int .i64 b] 44) (.cells #[.bool false,.int .i64 0] 67)
 generalize hA:(.give (getA m.D m.s.cur.fn.n i):Act1)=act
 have HA:=zh hA
 clear hA
 have hcl:=h.clen
 obtain⟨gc,cap,hvc,hcur⟩:=HJ.o.curAt (by omega)
 have hob:g.vc.ownBlock=some gc:=by rw[hvc];rfl
 have HN:Hid (∀ wx,Kp [] w1 wx->_):=zbw HJ.o (by omega) (fun wx hx=>(hcur wx hx).1)
 have hfn:=(h.cur hn).fn
 obtain⟨hap,u2,hu2,pf,hpf,hpg⟩:=HJ.o.view hfn hp
 rw[hu] at hu2
 cases hu2
 have HI:Hid _:=hpf i hi
 have HG:Hid (∀ wx,Kp [] w1 wx->_):=fun wx hx=>(hpg wx hx).2.2 i hi
 have HF:Hid (∀ wx,Kp [w.heap.size+1] w1 wx->wx.cell? ⟨X.mm,2,none⟩=some (.pointer (some ⟨X.hp,0,none⟩))/\X.mm < wx.heap.size/\wx.cell? ⟨w.heap.size,1,none⟩=some (.int .i64 (i:Int))/\w.heap.size < wx.heap.size/\wx.cell? ⟨gc,(g.s.cA.length - 1) * 9+2,none⟩=some (.int .i64 g.s.cur.fn.n)/\gc < wx.heap.size):=fun wx hx=>by
  obtain⟨mv,a1,o1,a2,o2,-⟩:=HB.o
  have hb1:=HJ.o.box.kp hx (by simp;intro e;exact o2.2 (by rw[<-e];exact za3))
  have e1:=(hx.block _ o1.1 (by simp)).trans a1
  obtain⟨f0,f1,f2,f3⟩:=zb9 e1
  have hgc:gc∉[w.heap.size+1]:=by
   simp
   intro e
   exact o2.2 (by rw[<-e];simp[fpt,hob])
  have e2:=(hcur w1 kr).2.1 2 (by omega)
  exact⟨hb1.heap.1,hb1.lt,f1,f3,hx.cell e2 hgc,lL (hcur w1 kr).2.2 hx.size⟩
 clear h hcl hvc hcur hob hfn hp hu hi hap hpf hpg hn
 generalize (g.s.cA.length - 1) * 9=oo at *
 generalize g.s.cur.fn.n=fn_ at *
 generalize pf i=c0 at *
 obtain⟨pp,pn⟩:=c0
 simp only at HG
 go_enter Tryz.func58,Tryz.ntmps58
 go_upto_region 12 with fail
 rw[<-hw1.out]
 refine zao (C:=fun wx=>Kp [w.heap.size+1] w1 wx) (by kernel_rfl) ?_
 refine qA 0 rfl ?_
 apply xI
 (intro wx hwx;go_simp <;> rfl)
 refine qA 1 rfl ?_
 apply xI
 (intro wx hwx;go_simp <;> rfl)
 refine qA 2 rfl ?_
 apply xI
 (intro wx hwx;go_simp <;> rfl)
 refine qA 3 rfl ?_
 apply xI
 (intro wx hwx;obtain⟨x0,x1,x2,x3,x4,x5⟩:=HF.o wx hwx;go_simp <;> rfl)
 refine qA 4 rfl ?_
 apply xI
 (intro wx hwx;go_simp <;> rfl)
 refine qA 10 rfl ?_
 apply xI
 (intro wx hwx;go_simp <;> rfl)
 refine qA 11 rfl ?_
 apply xI
 (intro wx hwx;obtain⟨x0,x1,x2,x3,x4,x5⟩:=HF.o wx hwx;go_simp <;> rfl)
 refine oA 5 ((Kp.refl [w.heap.size+1] w1).drew) rfl (fun K hK=>?_)
 go_simp
 refine cM (HN.o _ kr.drew) ?_
 rintro e8 w8 ⟨rfl,hw8⟩
 refine hK _ _ ?_
 clear hK K
 refine qA 6 rfl ?_
 apply xI
 (intro wx hwx;go_simp <;> rfl)
 refine qA 7 rfl ?_
 apply xI
 (intro wx hwx;go_simp <;> rfl)
 refine qA 8 rfl ?_
 apply xI
 (intro wx hwx;go_simp <;> rfl)
 refine qA 9 rfl ?_
 apply xI
 (intro wx hwx;obtain⟨x0,x1,x2,x3,x4,x5⟩:=HF.o wx hwx;go_simp <;> rfl)
 refine oA 12 (Kp.mono hw8 (by simp)) rfl (fun K hK=>?_)
 go_simp
 refine cM (HG.o _ hw8) ?_
 rintro e9 w9 ⟨rfl,hk9⟩
 refine hK _ _ ?_
 clear hK K
 obtain⟨mv,a1,o1,a2,o2,hwc⟩:=HB.o
 have hbz:=zad a2 hk9
 obtain⟨y0,y1,z0,z1,cl⟩:=zaa hbz
 obtain⟨d0,d1,_⟩:=zaa (zae hbz (.bool pp) (.int .i64 pn))
 have Q:Hid (zP X w g m act (.returned (.tuple #[.agg #[.bool pp,.int .i64 pn],.int .i64 0])) ((w9.setCell ⟨w.heap.size+1,0,none⟩ (.bool pp)).setCell ⟨w.heap.size+1,1,none⟩ (.int .i64 pn))):=by
  unfold Hid
  rw[<-HA.o]
  exact za4 (p:=⟨pp,pn⟩) HI.o.1 HI.o.2 (fin2 (HJ.o.kp hk9) (mv.trans (Mv.zk hk9)) ⟨lL o2.1 hk9.size,o2.2⟩ (by omega) hwc _ _)
 have hC9:Hid (Kp [w.heap.size+1] w1 w9):=Kp.mono hk9 (by simp)
 have HC9:Hid (Kp [w.heap.size+1] w1 ((w9.setCell ⟨w.heap.size+1,0,none⟩ (.bool pp)).setCell ⟨w.heap.size+1,1,none⟩ (.int .i64 pn))):=((Kp.mono hk9 (by simp)).trans (Kp.setCell (X:=[w.heap.size+1]) _ _ (by simp) _)).trans (Kp.setCell (X:=[w.heap.size+1]) _ _ (by simp) _)
 clear a1 o1 a2 o2 mv hwc hbz hk9 hw8
 refine oA 13 hC9.out rfl (fun K hK=>?_)
 go_simp
 refine hK _ _ ?_
 clear hK K
 refine oA 14 HC9.o rfl (fun K hK=>?_)
 go_simp
 refine hK _ _ ?_
 clear hK K
 refine zag HC9.o (by kernel_rfl) ?_
 go_simp
 clear hC9
 go_wp2_with fail
 exact bR (by simp[results,Tryz.results58,go_sem,d0,d1]) Q.o
theorem zm1(h:J X w g m R)(hv:1<=m.s.vA.length)(i:Nat)(b:Int):Calls Tryz.prog 58 #[.pointer (some ⟨X.mm,0,none⟩),.agg #[.int .i64 8,.int .i64 (i:Int),.int .i64 b]] w fun e w'=>zP X w g m (if hasF m.D (m.s.top 0) 0 i then .give (getA m.D (m.s.top 0).n i) else .wrong) e w':=by
 obtain⟨w1,hw1,HB,HJ⟩:=pre2W h (.cells #[.int .i64 8,.int .i64 (i:Int),.int .i64 b] 44) (.cells #[.bool false,.int .i64 0] 67)
 generalize hA:(if hasF m.D (m.s.top 0) 0 i then .give (getA m.D (m.s.top 0).n i) else .wrong:Act1)=act
 have HA:=zh hA
 clear hA
 have hvl:=h.vlen
 have HT0:Hid (∀ wx,Kp [] w1 wx->Calls Tryz.prog 49 #[.pointer (some ⟨X.mm,0,none⟩),.int .i64 0] wx fun e w'=>e=.returned (.agg #[.bool (g.s.top 0).p,.int .i64 (g.s.top 0).n])/\Kp [] w1 w'):=zbc HJ.o 0 (by omega)
 have HIs:Hid _:=h.top 0 (by omega)
 have HH:Hid _:=zf2 HJ.o (g.s.top 0) (m.s.top 0) HIs.o 0 i
 have HF:Hid (∀ wx,Kp [w.heap.size+1] w1 wx->wx.cell? ⟨X.mm,2,none⟩=some (.pointer (some ⟨X.hp,0,none⟩))/\X.mm < wx.heap.size/\wx.cell? ⟨w.heap.size,1,none⟩=some (.int .i64 (i:Int))/\w.heap.size < wx.heap.size):=fun wx hx=>by
  obtain⟨mv,a1,o1,a2,o2,-⟩:=HB.o
  have hb1:=HJ.o.box.kp hx (by simp;intro e;exact o2.2 (by rw[<-e];exact za3))
  have e1:=(hx.block _ o1.1 (by simp)).trans a1
  obtain⟨f0,f1,f2,f3⟩:=zb9 e1
  exact⟨hb1.heap.1,hb1.lt,f1,f3⟩
 have HK0:Hid (Kp [] w1 w1.drew):=kr.drew
 clear h hvl hv
 generalize g.s.top 0=c0 at *
 generalize m.s.top 0=v at *
 obtain⟨vp,vn⟩:=c0
 simp only at HT0 HH
 go_enter Tryz.func58,Tryz.ntmps58
 go_upto_region 20 with fail
 rw[<-hw1.out]
 cases hh:hasF m.D v 0 i with
 | false=>
  rw[hh] at HH HA
  rw[if_neg Bool.false_ne_true] at HA
  refine rQ HK0.o (fun ops Hops=>?_)
  repeat
   (refine wQ ?_;apply xI;(·intro wx hwx;obtain⟨x0,x1,x2,x3⟩:=HF.o wx (Kp.mono hwx (by simp));go_simp <;> first | with_reducible rfl | with_reducible exact⟨rfl,rfl⟩ | with_reducible exact HT0.o _ hwx | with_reducible exact HH.o _ hwx | exact HT0.o _ hwx | exact HH.o _ hwx);try go_simp)
  refine wpQuiet_nil ?_
  clear Hops ops
  intro w2 hw2
  obtain⟨⟨y0,y1,z0,z1,cl⟩,d0,d1,Q⟩:=endF2 HB.o HJ.o hw2 (.inl ⟨HA.o.symm,rfl⟩)
  clear hh hw2
  go_wp2_with fail
  exact bR (by simp[results,Tryz.results58,go_sem,d0,d1]) Q.o
 | true=>
  rw[hh] at HH HA
  rw[if_pos rfl] at HA
  refine rQ HK0.o (fun ops Hops=>?_)
  repeat
   (refine wQ ?_;apply xI;(·intro wx hwx;obtain⟨x0,x1,x2,x3⟩:=HF.o wx (Kp.mono hwx (by simp));go_simp <;> first | with_reducible rfl | with_reducible exact⟨rfl,rfl⟩ | with_reducible exact HT0.o _ hwx | with_reducible exact HH.o _ hwx | exact HT0.o _ hwx | exact HH.o _ hwx);try go_simp)
  refine wpQuiet_nil ?_
  clear Hops ops
  intro w2 hw2
  have hp:v.p=true/\∃ u,m.D v.n=some u/\i < u.fs.length:=by
   unfold hasF thK lenA at hh
   simp only[Bool.and_eq_true,decide_eq_true_eq] at hh
   obtain⟨⟨h1,h2⟩,h3⟩:=hh
   refine⟨h1,?_⟩
   cases hu:m.D v.n with
   | none=>
    rw[hu] at h2
    cases h2
   | some u=>
    rw[hu] at h3
    exact⟨u,rfl,h3⟩
  obtain⟨hp,u,hu,hi⟩:=hp
  obtain⟨hap,u2,hu2,pf,hpf,hpg⟩:=HJ.o.view HIs.o hp
  rw[hu] at hu2
  cases hu2
  have HI:Hid _:=hpf i hi
  have HG:Hid (∀ wx,Kp [] w1 wx->_):=fun wx hx=>(hpg wx hx).2.2 i hi
  have Hw2:=zh hw2.drew
  clear hp hu hi hap hpf hpg hh hw2
  generalize pf i=c0 at *
  obtain⟨pp,pn⟩:=c0
  simp only at HG
  have hf1:=za9 vp vn
  go_upto_region 22 with fail
  refine zao (C:=fun wx=>Kp [w.heap.size+1] w1 wx) (by kernel_rfl) ?_
  refine qA 0 rfl ?_
  apply xI
  (intro wx hwx;go_simp <;> rfl)
  refine qA 1 rfl ?_
  apply xI
  (intro wx hwx;go_simp <;> rfl)
  refine qA 2 rfl ?_
  apply xI
  (intro wx hwx;go_simp <;> rfl)
  refine qA 3 rfl ?_
  apply xI
  (intro wx hwx;obtain⟨x0,x1,x2,x3⟩:=HF.o wx hwx;go_simp <;> rfl)
  refine qA 4 rfl ?_
  apply xI
  (intro wx hwx;go_simp <;> rfl)
  refine qA 7 rfl ?_
  apply xI
  (intro wx hwx;go_simp <;> rfl)
  refine qA 8 rfl ?_
  apply xI
  (intro wx hwx;obtain⟨x0,x1,x2,x3⟩:=HF.o wx hwx;go_simp <;> rfl)
  refine oA 5 (Kp.mono Hw2.o (by simp)) rfl (fun K hK=>?_)
  go_simp
  refine cM (HT0.o _ Hw2.o) ?_
  rintro e8 w8 ⟨rfl,hw8⟩
  refine hK _ _ ?_
  clear hK K
  refine qA 6 rfl ?_
  apply xI
  (intro wx hwx;go_simp <;> rfl)
  refine oA 9 (Kp.mono hw8 (by simp)) rfl (fun K hK=>?_)
  go_simp
  refine cM (HG.o _ hw8) ?_
  rintro e9 w9 ⟨rfl,hk9⟩
  refine hK _ _ ?_
  clear hK K
  obtain⟨mv,a1,o1,a2,o2,hwc⟩:=HB.o
  have hbz:=zad a2 hk9
  obtain⟨y0,y1,z0,z1,cl⟩:=zaa hbz
  obtain⟨d0,d1,_⟩:=zaa (zae hbz (.bool pp) (.int .i64 pn))
  have Q:Hid (zP X w g m act (.returned (.tuple #[.agg #[.bool pp,.int .i64 pn],.int .i64 0])) ((w9.setCell ⟨w.heap.size+1,0,none⟩ (.bool pp)).setCell ⟨w.heap.size+1,1,none⟩ (.int .i64 pn))):=by
   unfold Hid
   rw[<-HA.o]
   exact za4 (p:=⟨pp,pn⟩) HI.o.1 HI.o.2 (fin2 (HJ.o.kp hk9) (mv.trans (Mv.zk hk9)) ⟨lL o2.1 hk9.size,o2.2⟩ (by omega) hwc _ _)
  have hC9:Hid (Kp [w.heap.size+1] w1 w9):=Kp.mono hk9 (by simp)
  have HC9:Hid (Kp [w.heap.size+1] w1 ((w9.setCell ⟨w.heap.size+1,0,none⟩ (.bool pp)).setCell ⟨w.heap.size+1,1,none⟩ (.int .i64 pn))):=((Kp.mono hk9 (by simp)).trans (Kp.setCell (X:=[w.heap.size+1]) _ _ (by simp) _)).trans (Kp.setCell (X:=[w.heap.size+1]) _ _ (by simp) _)
  clear a1 o1 a2 o2 mv hwc hbz hk9 hw8 hf1
  refine oA 10 hC9.out rfl (fun K hK=>?_)
  go_simp
  refine hK _ _ ?_
  clear hK K
  refine oA 11 HC9.o rfl (fun K hK=>?_)
  go_simp
  refine hK _ _ ?_
  clear hK K
  refine zag HC9.o (by kernel_rfl) ?_
  go_simp
  clear hC9
  go_wp2_with fail
  exact bR (by simp[results,Tryz.results58,go_sem,d0,d1]) Q.o
theorem zm0(h:J X w g m R)(hv:1<=m.s.vA.length)(a b:Int):Calls Tryz.prog 58 #[.pointer (some ⟨X.mm,0,none⟩),.agg #[.int .i64 9,.int .i64 a,.int .i64 b]] w fun e w'=>zP X w g m (.give (truth (decide (m.s.top 0=num a)))) e w':=by
 obtain⟨w1,hw1,HB,HJ⟩:=pre2W h (.cells #[.int .i64 9,.int .i64 a,.int .i64 b] 44) (.cells #[.bool false,.int .i64 0] 67)
 generalize hA:(.give (truth (decide (m.s.top 0=num a))):Act1)=act
 have HA:=zh hA
 clear hA
 have hvl:=h.vlen
 have HT0:Hid (∀ wx,Kp [] w1 wx->Calls Tryz.prog 49 #[.pointer (some ⟨X.mm,0,none⟩),.int .i64 0] wx fun e w'=>e=.returned (.agg #[.bool (g.s.top 0).p,.int .i64 (g.s.top 0).n])/\Kp [] w1 w'):=zbc HJ.o 0 (by omega)
 have hsm:=zrk h.one (h.top 0 (by omega)) (zb5 R a)
 rw[<-hsm,<-zj3] at HA
 have HF:Hid (∀ wx,Kp [w.heap.size+1] w1 wx->wx.cell? ⟨X.mm,2,none⟩=some (.pointer (some ⟨X.hp,0,none⟩))/\X.mm < wx.heap.size/\wx.cell? ⟨w.heap.size,1,none⟩=some (.int .i64 a)/\w.heap.size < wx.heap.size):=fun wx hx=>by
  obtain⟨mv,a1,o1,a2,o2,-⟩:=HB.o
  have hb1:=HJ.o.box.kp hx (by simp;intro e;exact o2.2 (by rw[<-e];exact za3))
  have e1:=(hx.block _ o1.1 (by simp)).trans a1
  obtain⟨f0,f1,f2,f3⟩:=zb9 e1
  exact⟨hb1.heap.1,hb1.lt,f1,f3⟩
 clear h hv hvl hsm
 generalize g.s.top 0=c0 at *
 obtain⟨p0,n0⟩:=c0
 simp only at HT0 HA
 have heq:=eq67 p0 false n0 a
 generalize hbb:(p0 == false && n0 == a)=bb at *
 clear hbb
 have HTr:Hid _:=fun wx=>zb2 wx bb
 have HI:Hid (zI R ⟨false,if bb then 1 else 0⟩ (truth bb)/\wfC ⟨false,if bb then 1 else 0⟩):=⟨zb5 R _,zco (by cases bb <;> decide)⟩
 generalize (if bb then(1:Int) else 0)=nb at *
 go_enter Tryz.func58,Tryz.ntmps58
 go_upto_region 24 with fail
 rw[<-hw1.out]
 refine zao (C:=fun wx=>Kp [w.heap.size+1] w1 wx) (by kernel_rfl) ?_
 refine qA 0 rfl ?_
 apply xI
 (intro wx hwx;go_simp <;> rfl)
 refine qA 2 rfl ?_
 apply xI
 (intro wx hwx;go_simp <;> rfl)
 refine qA 3 rfl ?_
 apply xI
 (intro wx hwx;obtain⟨x0,x1,x2,x3⟩:=HF.o wx hwx;go_simp <;> rfl)
 refine oA 1 ((Kp.refl [w.heap.size+1] w1).drew) rfl (fun K hK=>?_)
 go_simp
 refine cM (HT0.o _ kr.drew) ?_
 rintro e8 w8 ⟨rfl,hw8⟩
 refine hK _ _ ?_
 clear hK K
 refine oA 4 (Kp.mono hw8 (by simp)) rfl (fun K hK=>?_)
 go_simp
 refine cM (za0 _ a) ?_
 rintro e9 w9 ⟨rfl,hw9⟩
 refine hK _ _ ?_
 clear hK K
 have hk9':=hw8.trans hw9
 refine qA 5 rfl ?_
 apply xI
 (intro wx hwx;go_simp <;> rfl)
 refine oA 6 (Kp.mono hk9' (by simp)) rfl (fun K hK=>?_)
 go_simp
 refine cM (HTr.o _) ?_
 rintro e10 w10 ⟨rfl,hw10⟩
 refine hK _ _ ?_
 clear hK K
 have hk10:=hk9'.trans hw10
 obtain⟨mv,a1,o1,a2,o2,hwc⟩:=HB.o
 have hbz:=zad a2 hk10
 obtain⟨y0,y1,z0,z1,cl⟩:=zaa hbz
 obtain⟨d0,d1,_⟩:=zaa (zae hbz (.bool false) (.int .i64 nb))
 have Q:Hid (zP X w g m act (.returned (.tuple #[.agg #[.bool false,.int .i64 nb],.int .i64 0])) ((w10.setCell ⟨w.heap.size+1,0,none⟩ (.bool false)).setCell ⟨w.heap.size+1,1,none⟩ (.int .i64 nb))):=by
  unfold Hid
  rw[<-HA.o]
  exact za4 (p:=⟨false,nb⟩) HI.o.1 HI.o.2 (fin2 (HJ.o.kp hk10) (mv.trans (Mv.zk hk10)) ⟨lL o2.1 hk10.size,o2.2⟩ (by omega) hwc _ _)
 have hC9:Hid (Kp [w.heap.size+1] w1 w10):=Kp.mono hk10 (by simp)
 have HC9:Hid (Kp [w.heap.size+1] w1 ((w10.setCell ⟨w.heap.size+1,0,none⟩ (.bool false)).setCell ⟨w.heap.size+1,1,none⟩ (.int .i64 nb))):=((Kp.mono hk10 (by simp)).trans (Kp.setCell (X:=[w.heap.size+1]) _ _ (by simp) _)).trans (Kp.setCell (X:=[w.heap.size+1]) _ _ (by simp) _)
 clear a1 o1 a2 o2 mv hwc hbz hk10 hw8 hw9 hk9' hw10 heq
 refine oA 7 hC9.out rfl (fun K hK=>?_)
 go_simp
 refine hK _ _ ?_
 clear hK K
 refine oA 8 HC9.o rfl (fun K hK=>?_)
 go_simp
 refine hK _ _ ?_
 clear hK K
 refine zag HC9.o (by kernel_rfl) ?_
 go_simp
 clear hC9
 go_wp2_with fail
 exact bR (by simp[results,Tryz.results58,go_sem,d0,d1]) Q.o
theorem zkp(h:J X w g m R)(hv:1<=m.s.vA.length)(a b:Int):Calls Tryz.prog 58 #[.pointer (some ⟨X.mm,0,none⟩),.agg #[.int .i64 10,.int .i64 a,.int .i64 b]] w fun e w'=>zP X w g m (.give (truth (thK m.D (m.s.top 0) 0 && decide (tagA m.D (m.s.top 0).n=a)))) e w':=by
 obtain⟨w1,hw1,HB,HJ⟩:=pre2W h (.cells #[.int .i64 10,.int .i64 a,.int .i64 b] 44) (.cells #[.bool false,.int .i64 0] 67)
 generalize hA:(.give (truth (thK m.D (m.s.top 0) 0 && decide (tagA m.D (m.s.top 0).n=a))):Act1)=act
 have HA:=zh hA
 clear hA
 have hvl:=h.vlen
 have HT0:Hid (∀ wr,Kp [] w1 wr->∀ wx,Kp [] wr wx->Calls Tryz.prog 49 #[.pointer (some ⟨X.mm,0,none⟩),.int .i64 0] wx fun e w'=>e=.returned (.agg #[.bool (g.s.top 0).p,.int .i64 (g.s.top 0).n])/\Kp [] wr w'):=fun wr hr=>zbc (HJ.o.kp hr) 0 (by omega)
 have HIs:Hid _:=h.top 0 (by omega)
 have HH:Hid _:=zbl HJ.o (g.s.top 0) (m.s.top 0) HIs.o 0
 have HF:Hid (∀ wx,Kp [w.heap.size+1] w1 wx->wx.cell? ⟨X.mm,2,none⟩=some (.pointer (some ⟨X.hp,0,none⟩))/\X.mm < wx.heap.size/\wx.cell? ⟨w.heap.size,1,none⟩=some (.int .i64 a)/\w.heap.size < wx.heap.size):=fun wx hx=>by
  obtain⟨mv,a1,o1,a2,o2,-⟩:=HB.o
  have hb1:=HJ.o.box.kp hx (by simp;intro e;exact o2.2 (by rw[<-e];exact za3))
  have e1:=(hx.block _ o1.1 (by simp)).trans a1
  obtain⟨f0,f1,f2,f3⟩:=zb9 e1
  exact⟨hb1.heap.1,hb1.lt,f1,f3⟩
 clear h hvl hv
 generalize g.s.top 0=c0 at *
 generalize m.s.top 0=v at *
 obtain⟨vp,vn⟩:=c0
 simp only at HT0 HH
 generalize hbb:(thK m.D v 0 && decide (tagA m.D v.n=a))=bb at *
 have Hbb:=zh hbb
 clear hbb
 have HTr:Hid _:=fun wx=>zb2 wx bb
 have HI:Hid (zI R ⟨false,if bb then 1 else 0⟩ (truth bb)/\wfC ⟨false,if bb then 1 else 0⟩):=⟨zb5 R _,zco (by cases bb <;> decide)⟩
 generalize (if bb then(1:Int) else 0)=nb at *
 go_enter Tryz.func58,Tryz.ntmps58
 go_upto_region 26 with fail
 rw[<-hw1.out]
 cases hh:thK m.D v 0 with
 | false=>
  rw[hh] at HH Hbb
  have hbf:bb=false:=by
   rw[<-Hbb.o]
   rfl
  subst hbf
  refine zao (C:=fun wx=>Kp [w.heap.size+1] w1 wx) (by kernel_rfl) ?_
  refine qA 0 rfl ?_
  apply xI
  (intro wx hwx;go_simp <;> rfl)
  refine qA 1 rfl ?_
  apply xI
  (intro wx hwx;go_simp <;> rfl)
  refine oA 2 ((Kp.refl [w.heap.size+1] w1).drew) rfl (fun K hK=>?_)
  go_simp
  refine cM (HT0.o w1 kr _ kr.drew) ?_
  rintro e8 w8 ⟨rfl,hw8⟩
  refine hK _ _ ?_
  clear hK K
  refine oA 3 (Kp.mono hw8 (by simp)) rfl (fun K hK=>?_)
  go_simp
  refine cM (HH.o _ hw8) ?_
  rintro e9 w9 ⟨rfl,hw9⟩
  refine hK _ _ ?_
  clear hK K
  refine qA 4 rfl ?_
  apply xI
  (intro wx hwx;go_simp <;> rfl)
  refine rA (i:=5) rfl ?_
  refine⟨undef,Or.inr ⟨by kernel_rfl,rfl⟩,?_⟩
  refine rA (i:=6) rfl ?_
  refine⟨undef,Or.inr ⟨by kernel_rfl,rfl⟩,?_⟩
  refine rA (i:=7) rfl ?_
  refine⟨undef,Or.inr ⟨by kernel_rfl,rfl⟩,?_⟩
  refine rA (i:=8) rfl ?_
  refine⟨undef,Or.inr ⟨by kernel_rfl,rfl⟩,?_⟩
  refine rA (i:=9) rfl ?_
  refine⟨undef,Or.inr ⟨by kernel_rfl,rfl⟩,?_⟩
  refine rA (i:=10) rfl ?_
  refine⟨undef,Or.inr ⟨by kernel_rfl,rfl⟩,?_⟩
  refine rA (i:=11) rfl ?_
  refine⟨undef,Or.inr ⟨by kernel_rfl,rfl⟩,?_⟩
  refine rA (i:=12) rfl ?_
  refine⟨undef,Or.inr ⟨by kernel_rfl,rfl⟩,?_⟩
  refine rA (i:=13) rfl ?_
  refine⟨undef,Or.inr ⟨by kernel_rfl,rfl⟩,?_⟩
  refine rA (i:=14) rfl ?_
  refine⟨undef,Or.inr ⟨by kernel_rfl,rfl⟩,?_⟩
  refine rA (i:=15) rfl ?_
  refine⟨undef,Or.inr ⟨by kernel_rfl,rfl⟩,?_⟩
  refine qA 16 rfl ?_
  apply xI
  (intro wx hwx;go_simp <;> rfl)
  refine oA 17 (Kp.mono hw9 (by simp)) rfl (fun K hK=>?_)
  go_simp
  refine cM (HTr.o _) ?_
  rintro e10 w10 ⟨rfl,hw10⟩
  refine hK _ _ ?_
  clear hK K
  have hk10:=hw9.trans hw10
  obtain⟨mv,a1,o1,a2,o2,hwc⟩:=HB.o
  have hbz:=zad a2 hk10
  obtain⟨y0,y1,z0,z1,cl⟩:=zaa hbz
  obtain⟨d0,d1,_⟩:=zaa (zae hbz (.bool false) (.int .i64 nb))
  have Q:Hid (zP X w g m act (.returned (.tuple #[.agg #[.bool false,.int .i64 nb],.int .i64 0])) ((w10.setCell ⟨w.heap.size+1,0,none⟩ (.bool false)).setCell ⟨w.heap.size+1,1,none⟩ (.int .i64 nb))):=by
   unfold Hid
   rw[<-HA.o]
   exact za4 (p:=⟨false,nb⟩) HI.o.1 HI.o.2 (fin2 (HJ.o.kp hk10) (mv.trans (Mv.zk hk10)) ⟨lL o2.1 hk10.size,o2.2⟩ (by omega) hwc _ _)
  have hC9:Hid (Kp [w.heap.size+1] w1 w10):=Kp.mono hk10 (by simp)
  have HC9:Hid (Kp [w.heap.size+1] w1 ((w10.setCell ⟨w.heap.size+1,0,none⟩ (.bool false)).setCell ⟨w.heap.size+1,1,none⟩ (.int .i64 nb))):=((Kp.mono hk10 (by simp)).trans (Kp.setCell (X:=[w.heap.size+1]) _ _ (by simp) _)).trans (Kp.setCell (X:=[w.heap.size+1]) _ _ (by simp) _)
  clear a1 o1 a2 o2 mv hwc hbz hk10 hw8 hw9 hw10 hh
  refine oA 18 hC9.out rfl (fun K hK=>?_)
  go_simp
  refine hK _ _ ?_
  clear hK K
  refine oA 19 HC9.o rfl (fun K hK=>?_)
  go_simp
  refine hK _ _ ?_
  clear hK K
  refine zag HC9.o (by kernel_rfl) ?_
  go_simp
  clear hC9
  go_wp2_with fail
  exact bR (by simp[results,Tryz.results58,go_sem,d0,d1]) Q.o
 | true=>
  rw[hh,Bool.true_and] at Hbb
  rw[hh] at HH
  have hp:v.p=true:=by
   unfold thK at hh
   simp only[Bool.and_eq_true] at hh
   exact hh.1
  obtain⟨hap,u2,hu2,pf,hpf,hpg⟩:=HJ.o.views HIs.o hp
  have htg:tagA m.D v.n=u2.tag:=by
   unfold tagA
   rw[hu2]
   rfl
  have HG:Hid (∀ wr,Kp [] w1 wr->∀ wx,Kp [] wr wx->Calls Tryz.prog 78 #[.pointer (some ⟨X.hp,0,none⟩),.int .i64 vn] wx fun e w'=>e=.returned (.int .i64 (tagA m.D v.n))/\Kp [] wr w'):=fun wr hr wx hx=>by
   rw[htg]
   exact(hpg wr hr wx hx).2.1
  clear hp hap hu2 hpf hpg hh htg
  generalize tagA m.D v.n=tg at *
  have hbt:(tg == a)=bb:=by
   rw[<-Hbb.o]
   by_cases e:tg=a <;> simp[e]
  have hf1:=za9 vp vn
  refine zao (C:=fun wx=>Kp [w.heap.size+1] w1 wx) (by kernel_rfl) ?_
  refine qA 0 rfl ?_
  apply xI
  (intro wx hwx;go_simp <;> rfl)
  refine qA 1 rfl ?_
  apply xI
  (intro wx hwx;go_simp <;> rfl)
  refine oA 2 ((Kp.refl [w.heap.size+1] w1).drew) rfl (fun K hK=>?_)
  go_simp
  refine cM (HT0.o w1 kr _ kr.drew) ?_
  rintro e8 w8 ⟨rfl,hw8⟩
  refine hK _ _ ?_
  clear hK K
  refine oA 3 (Kp.mono hw8 (by simp)) rfl (fun K hK=>?_)
  go_simp
  refine cM (HH.o _ hw8) ?_
  rintro e9 w9 ⟨rfl,hw9⟩
  refine hK _ _ ?_
  clear hK K
  refine qA 4 rfl ?_
  apply xI
  (intro wx hwx;go_simp <;> rfl)
  refine qA 5 rfl ?_
  apply xI
  (intro wx hwx;go_simp <;> rfl)
  refine qA 6 rfl ?_
  apply xI
  (intro wx hwx;go_simp <;> rfl)
  refine qA 7 rfl ?_
  apply xI
  (intro wx hwx;go_simp <;> rfl)
  refine qA 8 rfl ?_
  apply xI
  (intro wx hwx;obtain⟨x0,x1,x2,x3⟩:=HF.o wx hwx;go_simp <;> rfl)
  refine qA 9 rfl ?_
  apply xI
  (intro wx hwx;go_simp <;> rfl)
  refine qA 13 rfl ?_
  apply xI
  (intro wx hwx;go_simp <;> rfl)
  refine qA 14 rfl ?_
  apply xI
  (intro wx hwx;obtain⟨x0,x1,x2,x3⟩:=HF.o wx hwx;go_simp <;> rfl)
  refine oA 10 (Kp.mono hw9 (by simp)) rfl (fun K hK=>?_)
  go_simp
  refine cM (HT0.o w1 kr _ hw9) ?_
  rintro e11 w11 ⟨rfl,hw11⟩
  refine hK _ _ ?_
  clear hK K
  refine qA 11 rfl ?_
  apply xI
  (intro wx hwx;go_simp <;> rfl)
  refine oA 12 (Kp.mono hw11 (by simp)) rfl (fun K hK=>?_)
  go_simp
  refine cM (HG.o w1 kr _ hw11) ?_
  rintro e12 w12 ⟨rfl,hw12⟩
  refine hK _ _ ?_
  clear hK K
  refine qA 15 rfl ?_
  apply xI
  (intro wx hwx;go_simp <;> rfl)
  refine qA 16 rfl ?_
  apply xI
  (intro wx hwx;go_simp <;> rfl)
  refine oA 17 (Kp.mono hw12 (by simp)) rfl (fun K hK=>?_)
  go_simp
  refine cM (HTr.o _) ?_
  rintro e10 w10 ⟨rfl,hw10⟩
  refine hK _ _ ?_
  clear hK K
  have hk10:=hw12.trans hw10
  obtain⟨mv,a1,o1,a2,o2,hwc⟩:=HB.o
  have hbz:=zad a2 hk10
  obtain⟨y0,y1,z0,z1,cl⟩:=zaa hbz
  obtain⟨d0,d1,_⟩:=zaa (zae hbz (.bool false) (.int .i64 nb))
  have Q:Hid (zP X w g m act (.returned (.tuple #[.agg #[.bool false,.int .i64 nb],.int .i64 0])) ((w10.setCell ⟨w.heap.size+1,0,none⟩ (.bool false)).setCell ⟨w.heap.size+1,1,none⟩ (.int .i64 nb))):=by
   unfold Hid
   rw[<-HA.o]
   exact za4 (p:=⟨false,nb⟩) HI.o.1 HI.o.2 (fin2 (HJ.o.kp hk10) (mv.trans (Mv.zk hk10)) ⟨lL o2.1 hk10.size,o2.2⟩ (by omega) hwc _ _)
  have hC9:Hid (Kp [w.heap.size+1] w1 w10):=Kp.mono hk10 (by simp)
  have HC9:Hid (Kp [w.heap.size+1] w1 ((w10.setCell ⟨w.heap.size+1,0,none⟩ (.bool false)).setCell ⟨w.heap.size+1,1,none⟩ (.int .i64 nb))):=((Kp.mono hk10 (by simp)).trans (Kp.setCell (X:=[w.heap.size+1]) _ _ (by simp) _)).trans (Kp.setCell (X:=[w.heap.size+1]) _ _ (by simp) _)
  clear a1 o1 a2 o2 mv hwc hbz hk10 hw8 hw9 hw10 hw11 hw12 hf1 hbt
  refine oA 18 hC9.out rfl (fun K hK=>?_)
  go_simp
  refine hK _ _ ?_
  clear hK K
  refine oA 19 HC9.o rfl (fun K hK=>?_)
  go_simp
  refine hK _ _ ?_
  clear hK K
  refine zag HC9.o (by kernel_rfl) ?_
  go_simp
  clear hC9
  go_wp2_with fail
  exact bR (by simp[results,Tryz.results58,go_sem,d0,d1]) Q.o
end
end Go.Proofs.YtkcmachfagcnaaaGreatDoor
