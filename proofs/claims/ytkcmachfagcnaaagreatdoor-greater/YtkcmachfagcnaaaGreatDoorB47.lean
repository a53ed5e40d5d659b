/- Part of Greater. -/
import Derived.ChangeSame
import Derived.ChangeArms
import Derived.ProofKit
import Derived.OpenShut
import Derived.Lib.LaidTab
import Derived.Deep.Strs
import Derived.LaidHandle
import Derived.Test.YtkcmachfagcnaaaGreatDoorB46
set_option maxHeartbeats 8000000
set_option maxRecDepth 100000
namespace Go.Proofs.YtkcmachfagcnaaaGreatDoor
open Go.RowKit Go.Deep Go.IntWalk
open C12 (zX zF Cd Fn In zT decR)
theorem zh7(w:World)(ht:Tb w):Calls Tryz.prog 4 #[.string ⟨zSG.enc.1.toArray⟩,.int .i64 2,.int .i64 9] w fun e w'=>∃ nm ou st,e=.returned (.tuple #[.agg #[.int .i64 1,.string nm,.string ou,.int .i64 st],.agg #[.int .i64 0,.int .i64 0]])/\Kp [] w w':=by
 refine cM (zic w ⟨zSG.enc.1.toArray⟩ 2 9 ht) ?_
 rintro e w' ⟨rfl,hk⟩
 refine⟨(tellM ⟨zSG.enc.1.toArray⟩ 2 9).name,⟨(tellM ⟨zSG.enc.1.toArray⟩ 2 9).out.toArray⟩,((tellM ⟨zSG.enc.1.toArray⟩ 2 9).steps:Nat),?_,hk⟩
 rw[zhp,show(min (9:Int) 1000000).toNat=9 from rfl,zne]
theorem zsh(S:ByteArray)(cells more fuel:Int)(h1:0<=cells/\cells<=1000000)(h2:0<=more/\more<=1000000 - cells)(h3:0<=fuel/\fuel<=20000):∃ (ka:Int) (na oa:ByteArray) (sa:Int) (kb:Int) (nb ob:ByteArray) (sb fk fa:Int),
  (∀ w,Tb w->Calls Tryz.prog 4 #[.string S,.int .i64 cells,.int .i64 fuel] w fun e w'=>e=.returned (.tuple #[.agg #[.int .i64 ka,.string na,.string oa,.int .i64 sa],.agg #[.int .i64 fk,.int .i64 fa]])/\Kp [] w w')/\
  (∀ w,Tb w->Calls Tryz.prog 4 #[.string S,.int .i64 (cells+more),.int .i64 fuel] w fun e w'=>e=.returned (.tuple #[.agg #[.int .i64 kb,.string nb,.string ob,.int .i64 sb],.agg #[.int .i64 fk,.int .i64 fa]])/\Kp [] w w')/\
  (∀ w,Tb w->Calls Tryz.prog 7 #[.string S,.int .i64 cells] w fun e w1=>∃ q,e=.returned (.tuple #[.pointer q,.agg #[.int .i64 fk,.int .i64 fa]])/\MSt S cells 0 w [] q w1)/\
  (∀ w w1 L q,MSt S cells fuel.toNat w L q w1->Calls Tryz.prog 9 #[.pointer q] w1 fun e w2=>e=.returned (.agg #[.int .i64 ka,.string na,.string oa,.int .i64 sa])/\Kp [] w1 w2)/\
  (ka=3\/(kb=ka/\nb=na/\ob=oa/\sb=sa)):=by
 have em:(min fuel 1000000).toNat=fuel.toNat:=by
  congr 1
  omega
 obtain⟨e1,e2⟩:=zi7 (S:=S) h1 h2 fuel.toNat
 refine⟨(tellM S cells fuel.toNat).kind,(tellM S cells fuel.toNat).name,⟨(tellM S cells fuel.toNat).out.toArray⟩,((tellM S cells fuel.toNat).steps:Nat),(tellM S (cells+more) fuel.toNat).kind,(tellM S (cells+more) fuel.toNat).name,⟨(tellM S (cells+more) fuel.toNat).out.toArray⟩,((tellM S (cells+more) fuel.toNat).steps:Nat),(loadF S cells).1,(loadF S cells).2,fun w ht=>?_,fun w ht=>?_,fun w ht=>zmd w S cells ht,fun w w1 L q h=>zmc h,?_⟩
 ·have:=zic w S cells fuel ht
  rw[em] at this
  exact this
 ·have:=zic w S (cells+more) fuel ht
  rw[em,<-e1] at this
  exact this
 ·rcases e2 with e2 | e2
  ·right
   rw[e2]
   exact⟨rfl,rfl,rfl,rfl⟩
  ·exact Or.inl e2
theorem zlk(c:Cd)(p:Option Addr)(cap:Nat)(p':Option Addr)(cap':Nat)(w:World)(cells more fuel cut:Int)(ht:Tb w)(hW:C12.WdIn w)(hT:zX w p c.texts)(hF:zF w p' c.funs)(hcut:cut<=9223372036854775807) :
  Calls Tryz.prog 3 #[.agg #[.slice p c.texts.length cap,.slice p' c.funs.length cap'],.int .i64 cells,.int .i64 more,.int .i64 fuel,.int .i64 cut] w fun e w'=>e=.returned (.bool true)/\Kp [] w w':=by
 have HB:Hid (∀ wx,Kp [] w wx->Calls Tryz.prog 6 #[.agg #[.slice p c.texts.length cap,.slice p' c.funs.length cap']] wx fun e w'=>e=.returned (.string ⟨(bytesG c).toArray⟩)/\Kp [] wx w'):=fun wx hx=>by
  have hb:=hx.below (Nat.le_refl _) (by simp)
  exact zrq wx (ht.kp hx).sh (hW.below hb) c p cap p' cap' (hT.below hb) (hF.below hb)
 have HW:=zh (fun wx (hx:Kp [] w wx)=>zjd wx (ht.kp hx).sh (hW.below (hx.below (Nat.le_refl _) (by simp))))
 have HS:=zh (fun wx (h:Tb wx)=>zh7 wx h)
 have HT:=zh ht
 have Hcut:=zh hcut
 clear ht hW hT hF hcut
 generalize ByteArray.mk zSG.enc.1.toArray=Z at *
 generalize ByteArray.mk (bytesG c).toArray=S at *
 generalize c.texts.length=nt at *
 generalize c.funs.length=nf at *
 have Hk1:Hid (Kp [] w (w.alloc (.cells #[.slice p nt cap,.slice p' nf cap'] 25))):=kA
 have Hc1:Hid ((w.alloc (.cells #[.slice p nt cap,.slice p' nf cap'] 25)).heap[w.heap.size]? = some (.cells #[.slice p nt cap,.slice p' nf cap'] 25)):=zab w _
 go_enter Tryz.func3,Tryz.ntmps3
 go_wp2_with fail
 generalize w.alloc _=w1 at *
 refine cM (HW.o w1 Hk1.o) ?_
 rintro e w2 ⟨rfl,hk2⟩
 have Hk2:=zh (Kp.trans Hk1.o hk2)
 have Hc2:=zh (zad Hc1.o hk2)
 have Hsp:Hid _:=HS.o w2 (HT.o.kp Hk2.o)
 clear hk2
 go_wp2_with fail
 refine cM Hsp.o ?_
 rintro e w3 ⟨nm,ou,st,rfl,hk3⟩
 go_upto_region 2 with fail
 obtain⟨w4,hw4⟩:∃ w4,w4=(w3.alloc (.cells #[.int .i64 1,.string nm,.string ou,.int .i64 st] 27)).alloc (.cells #[.int .i64 0,.int .i64 0] 30):=⟨_,rfl⟩
 have k34:Kp [] w3 w4:=by
  rw[hw4]
  exact kA.trans kA
 have o4:w4.heap[w3.heap.size]? = some (.cells #[.int .i64 1,.string nm,.string ou,.int .i64 st] 27):=by
  rw[hw4]
  exact zaj (zab w3 _) _
 have f4:w4.heap[w3.heap.size+1]? = some (.cells #[.int .i64 0,.int .i64 0] 30):=by
  rw[hw4]
  have:=zab (w3.alloc (.cells #[.int .i64 1,.string nm,.string ou,.int .i64 st] 27)) (.cells #[.int .i64 0,.int .i64 0] 30)
  rwa [size_alloc] at this
 rw[<-hw4]
 clear hw4
 have H4:Hid (Kp [] w w4/\w4.heap[w.heap.size]? = some (.cells #[.slice p nt cap,.slice p' nf cap'] 25)/\w4.heap[w3.heap.size+1]? = some (.cells #[.int .i64 0,.int .i64 0] 30)/\w.heap.size < w3.heap.size):=⟨(Kp.trans Hk2.o hk3).trans k34,zad Hc2.o (hk3.trans k34),f4,lL (sz Hc2.o) hk3.size⟩
 obtain⟨x0,x1,x2,x3,-,xl⟩:=zb1 o4
 obtain⟨y0,y1,_,_,yl⟩:=za1 f4
 clear k34 o4 f4 hk3
 have Q4:=zh H4.o.1
 by_cases g1:cells < 0
 ·go_wp2_with fail
  exact bodyPost_ret (v:=.bool true) (by simp[results,Tryz.results3,go_sem]) rfl ⟨rfl,Q4.o⟩
 by_cases g2:more < 0
 ·go_wp2_with fail
  exact bodyPost_ret (v:=.bool true) (by simp[results,Tryz.results3,go_sem]) rfl ⟨rfl,Q4.o⟩
 by_cases g3:1000000 < cells
 ·go_wp2_with fail
  exact bodyPost_ret (v:=.bool true) (by simp[results,Tryz.results3,go_sem]) rfl ⟨rfl,Q4.o⟩
 have hws:IntKind.i64.wrap (1000000 - cells)=1000000 - cells:=by
  rw[IntKind.wrap_i64]
  omega
 by_cases g4:1000000 - cells < more
 ·go_wp2_with fail
  exact bodyPost_ret (v:=.bool true) (by simp[results,Tryz.results3,go_sem]) rfl ⟨rfl,Q4.o⟩
 by_cases g5:fuel < 0
 ·go_wp2_with fail
  exact bodyPost_ret (v:=.bool true) (by simp[results,Tryz.results3,go_sem]) rfl ⟨rfl,Q4.o⟩
 by_cases g6:20000 < fuel
 ·go_wp2_with fail
  exact bodyPost_ret (v:=.bool true) (by simp[results,Tryz.results3,go_sem]) rfl ⟨rfl,Q4.o⟩
 have hwa:IntKind.i64.wrap (cells+more)=cells+more:=by
  rw[IntKind.wrap_i64]
  omega
 have hca:=zsh S cells more fuel ⟨by omega,by omega⟩ ⟨by omega,by omega⟩ ⟨by omega,by omega⟩
 obtain⟨ka,na,oa,sa,kb,nb,ob,sb,fk,fa,ta,tb,tl,tt,hab⟩:=hca
 have HA:=zh ta
 have HBp:=zh tb
 have HL:=zh tl
 have HTl:=zh tt
 have Hab:=zh hab
 clear ta tb tl tt hab Q4
 go_upto_region 6 with fail
 clear x0 x1 x2 x3 xl y0 y1 yl
 obtain⟨x0,x1,_,_,xl⟩:=za1 H4.o.2.1
 have Hby:Hid _:=HB.o w4 H4.o.1
 go_wp2_with fail
 refine cM Hby.o ?_
 rintro e w5 ⟨rfl,hk5⟩
 clear x0 x1 xl
 have H5:Hid (_/\_/\_):=⟨H4.o.1.trans hk5,zad H4.o.2.2.1 hk5,H4.o.2.2.2⟩
 have HpA:Hid _:=HA.o w5 (HT.o.kp H5.o.1)
 clear hk5
 go_wp2_with fail
 refine cM HpA.o ?_
 rintro e w6 ⟨rfl,hk6⟩
 have f6:(w6.alloc (.cells #[.int .i64 ka,.string na,.string oa,.int .i64 sa] 27)).heap[w3.heap.size+1]? = some (.cells #[.int .i64 0,.int .i64 0] 30):=zaj (zad H5.o.2.1 hk6) _
 have H6:Hid (_/\_/\_):=⟨H5.o.1.trans hk6,zad H5.o.2.1 hk6,H5.o.2.2⟩
 obtain⟨y0,y1,z0,z1,yl⟩:=za1 f6
 obtain⟨w7,hw7⟩:∃ w7,w7=((w6.alloc (.cells #[.int .i64 ka,.string na,.string oa,.int .i64 sa] 27)).setCell ⟨w3.heap.size+1,0,none⟩ (.int .i64 fk)).setCell ⟨w3.heap.size+1,1,none⟩ (.int .i64 fa):=⟨_,rfl⟩
 have H7:Hid (Kp [] w w7/\w7.heap[w3.heap.size+1]? = some (.cells #[.int .i64 fk,.int .i64 fa] 30)/\w7.heap[w6.heap.size]? = some (.cells #[.int .i64 ka,.string na,.string oa,.int .i64 sa] 27)/\w.heap.size < w3.heap.size):=by
  obtain⟨q1,q2,q3⟩:=H6.o
  rw[hw7]
  have l6:=(sz q2)
  refine⟨zew (q1.trans kA) (by omega) _ _,zek f6 _ _,?_,q3⟩
  have k2:Kp [w3.heap.size+1] (w6.alloc (.cells #[.int .i64 ka,.string na,.string oa,.int .i64 sa] 27)) (((w6.alloc (.cells #[.int .i64 ka,.string na,.string oa,.int .i64 sa] 27)).setCell ⟨w3.heap.size+1,0,none⟩ (.int .i64 fk)).setCell ⟨w3.heap.size+1,1,none⟩ (.int .i64 fa)):=(Kp.setCell (X:=[w3.heap.size+1]) _ _ (by simp) _).trans (Kp.setCell (X:=[w3.heap.size+1]) _ _ (by simp) _)
  exact(k2.block _ (by rw[size_alloc];omega) (by simp;omega)).trans (zab w6 _)
 clear f6 hk6
 go_upto_region 8 with fail
 rw[<-hw7]
 clear hw7 y0 y1 z0 z1 yl
 have HpB:Hid _:=HBp.o w7 (HT.o.kp H7.o.1)
 go_wp2_with fail
 refine cM HpB.o ?_
 rintro e w8 ⟨rfl,hk8⟩
 go_upto_region 9 with fail
 obtain⟨w9,hw9⟩:∃ w9,w9=(w8.alloc (.cells #[.int .i64 kb,.string nb,.string ob,.int .i64 sb] 27)).alloc (.cells #[.int .i64 fk,.int .i64 fa] 30):=⟨_,rfl⟩
 have H9:Hid (Kp [] w w9/\w9.heap[w3.heap.size+1]? = some (.cells #[.int .i64 fk,.int .i64 fa] 30)/\w9.heap[w6.heap.size]? = some (.cells #[.int .i64 ka,.string na,.string oa,.int .i64 sa] 27)/\w9.heap[w8.heap.size]? = some (.cells #[.int .i64 kb,.string nb,.string ob,.int .i64 sb] 27)/\w9.heap[w8.heap.size+1]? = some (.cells #[.int .i64 fk,.int .i64 fa] 30)):=by
  obtain⟨q1,q2,q3,q4⟩:=H7.o
  have k89:Kp [] w8 w9:=by
   rw[hw9]
   exact kA.trans kA
  refine⟨(q1.trans hk8).trans k89,zad q2 (hk8.trans k89),zad q3 (hk8.trans k89),?_,?_⟩
  ·rw[hw9]
   exact zaj (zab w8 _) _
  ·rw[hw9]
   have:=zab (w8.alloc (.cells #[.int .i64 kb,.string nb,.string ob,.int .i64 sb] 27)) (.cells #[.int .i64 fk,.int .i64 fa] 30)
   rwa [size_alloc] at this
 rw[<-hw9]
 clear hw9 hk8
 obtain⟨y0,y1,_,_,yl⟩:=za1 H9.o.2.1
 obtain⟨v0,v1,_,_,vl⟩:=za1 H9.o.2.2.2.2
 have n30:=neq30 fk fa w9
 have Q9:=zh H9.o.1
 by_cases hfk:fk=0
 ·have hfb:(fk != 0)=false:=by simpa using hfk
  have Hld:Hid _:=HL.o w9 (HT.o.kp H9.o.1)
  clear hfk Q9
  go_wp2_with fail
  refine cM Hld.o ?_
  rintro e w10 ⟨q,rfl,hs⟩
  clear y0 y1 yl v0 v1 vl n30
  have HS:Hid (MSt S cells 0 w9 [] q (w10.alloc (.cells #[.int .i64 fk,.int .i64 fa] 30))):=hs.kp kA
  clear hs
  have Hgo:Hid _:=zme HS.o (by omega) cut
  go_wp2_with fail
  generalize w10.alloc _=w11 at *
  refine cM Hgo.o ?_
  rintro e w12 ⟨vv,rfl,hs,-⟩
  rw[Nat.zero_add] at hs
  have HS:=zh hs
  clear hs
  have Ho:Hid ((w12.alloc (.cells #[.int .i64 0,.string ⟨#[]⟩,.string ⟨#[]⟩,.int .i64 0] 27)).heap[w12.heap.size]? = some (.cells #[.int .i64 0,.string ⟨#[]⟩,.string ⟨#[]⟩,.int .i64 0] 27)):=zab w12 _
  have HS2:Hid (MSt S cells (min cut 1000000).toNat w9 [w12.heap.size] q (w12.alloc (.cells #[.int .i64 0,.string ⟨#[]⟩,.string ⟨#[]⟩,.int .i64 0] 27))):=HS.o.box (.cells #[.int .i64 0,.string ⟨#[]⟩,.string ⟨#[]⟩,.int .i64 0] 27)
  have hz9:=HS.o.frame.size
  by_cases c1:0 < cut
  ·by_cases c2:cut<=fuel
   ·have hws2:IntKind.i64.wrap (fuel - cut)=fuel - cut:=by
     rw[IntKind.wrap_i64]
     omega
    have hge:0<=fuel - cut:=by omega
    have Hgo:Hid (Calls Tryz.prog 8 #[.pointer q,.int .i64 (fuel - cut)] (w12.alloc (.cells #[.int .i64 0,.string ⟨#[]⟩,.string ⟨#[]⟩,.int .i64 0] 27)) fun e w2=>∃ v,e=.returned (.int .i64 v)/\MSt S cells fuel.toNat w9 [w12.heap.size] q w2/\∀ b∈[w12.heap.size],w2.heap[b]? = (w12.alloc (.cells #[.int .i64 0,.string ⟨#[]⟩,.string ⟨#[]⟩,.int .i64 0] 27)).heap[b]?):=by
     have:=zme HS2.o (by omega) (fuel - cut)
     rw[show(min cut 1000000).toNat+(min (fuel - cut) 1000000).toNat=fuel.toNat by omega] at this
     exact this
    go_wp2_with fail
    generalize w12.alloc _=w13 at *
    refine cM Hgo.o ?_
    rintro e w14 ⟨v9,rfl,hs,hb⟩
    have hb14:=(hb _ (by simp)).trans Ho.o
    have HTt:Hid _:=HTl.o _ _ _ _ hs
    have hk14:=hs.frame
    clear hs hb
    go_wp2_with fail
    refine cM HTt.o ?_
    rintro e w15 ⟨rfl,hk15⟩
    have hb15:=zad hb14 hk15
    have hkE:Kp [] w9 ((((w15.setCell ⟨w12.heap.size,0,none⟩ (.int .i64 ka)).setCell ⟨w12.heap.size,1,none⟩ (.string na)).setCell ⟨w12.heap.size,2,none⟩ (.string oa)).setCell ⟨w12.heap.size,3,none⟩ (.int .i64 sa)):=zlh (hk14.trans hk15) hz9 _ _ _ _
    have hb16:=ziq hb15 (.int .i64 ka) (.string na) (.string oa) (.int .i64 sa)
    obtain⟨x0,x1,x2,x3,xf,xl⟩:=zb1 hb15
    have xf0:=xf 0
    have xf1:=xf 1
    have xf2:=xf 2
    have xf3:=xf 3
    have HkE:=zh hkE
    have Hb16:=zh hb16
    clear hkE xf hb14 hb15 hb16 hk14 hk15
    go_upto_region 21 with fail
    generalize (((w15.setCell _ _).setCell _ _).setCell _ _).setCell _ _=wE at *
    clear x0 x1 x2 x3 xf0 xf1 xf2 xf3 xl
    obtain⟨x0,x1,x2,x3,-,xl⟩:=zb1 Hb16.o
    obtain⟨y0,y1,y2,y3,-,yl⟩:=zb1 (zad H9.o.2.2.1 HkE.o)
    have n27:=neq27 ka na oa sa wE
    go_upto_region 23 with fail
    clear x0 x1 x2 x3 xl y0 y1 y2 y3 yl n27
    have hkE:=HkE.o
    obtain⟨x0,x1,x2,x3,-,xl⟩:=zb1 (zad H9.o.2.2.1 hkE)
    obtain⟨y0,y1,y2,y3,-,yl⟩:=zb1 (zad H9.o.2.2.2.1 hkE)
    have QE:=zh (H9.o.1.trans hkE)
    rcases Hab.o with e3 | ⟨e3,e4,e5,e6⟩
    ·have e3b:(ka == 3)=true:=by simpa using e3
     clear e3 hkE
     go_wp2_with fail
     exact bodyPost_ret (v:=.bool true) (by simp[results,Tryz.results3,go_sem]) rfl ⟨rfl,QE.o⟩
    ·rw[e3] at y0
     rw[e4] at y1
     rw[e5] at y2
     rw[e6] at y3
     have q27:=eql27 ka na oa sa wE
     clear e3 e4 e5 e6 hkE
     go_wp2_with fail
     all_goals exact bodyPost_ret (v:=.bool true) (by simp[results,Tryz.results3,go_sem]) rfl ⟨rfl,QE.o⟩
   ·have hws2:IntKind.i64.wrap (fuel - cut)=fuel - cut:=by
     have:=Hcut.o
     rw[IntKind.wrap_i64]
     omega
    have hge:¬ (0<=fuel - cut):=by omega
    have hkE:=HS2.o.frame
    go_upto_region 23 with fail
    generalize w12.alloc _=wE at *
    obtain⟨x0,x1,x2,x3,-,xl⟩:=zb1 (zad H9.o.2.2.1 hkE)
    obtain⟨y0,y1,y2,y3,-,yl⟩:=zb1 (zad H9.o.2.2.2.1 hkE)
    have QE:=zh (H9.o.1.trans hkE)
    rcases Hab.o with e3 | ⟨e3,e4,e5,e6⟩
    ·have e3b:(ka == 3)=true:=by simpa using e3
     clear e3 hkE
     go_wp2_with fail
     exact bodyPost_ret (v:=.bool true) (by simp[results,Tryz.results3,go_sem]) rfl ⟨rfl,QE.o⟩
    ·rw[e3] at y0
     rw[e4] at y1
     rw[e5] at y2
     rw[e6] at y3
     have q27:=eql27 ka na oa sa wE
     clear e3 e4 e5 e6 hkE
     go_wp2_with fail
     all_goals exact bodyPost_ret (v:=.bool true) (by simp[results,Tryz.results3,go_sem]) rfl ⟨rfl,QE.o⟩
  ·have hge:0<=fuel:=by omega
   have Hgo:Hid (Calls Tryz.prog 8 #[.pointer q,.int .i64 fuel] (w12.alloc (.cells #[.int .i64 0,.string ⟨#[]⟩,.string ⟨#[]⟩,.int .i64 0] 27)) fun e w2=>∃ v,e=.returned (.int .i64 v)/\MSt S cells fuel.toNat w9 [w12.heap.size] q w2/\∀ b∈[w12.heap.size],w2.heap[b]? = (w12.alloc (.cells #[.int .i64 0,.string ⟨#[]⟩,.string ⟨#[]⟩,.int .i64 0] 27)).heap[b]?):=by
    have:=zme HS2.o (by omega) fuel
    rw[show(min cut 1000000).toNat+(min fuel 1000000).toNat=fuel.toNat by omega] at this
    exact this
   go_wp2_with fail
   generalize w12.alloc _=w13 at *
   refine cM Hgo.o ?_
   rintro e w14 ⟨v9,rfl,hs,hb⟩
   have hb14:=(hb _ (by simp)).trans Ho.o
   have HTt:Hid _:=HTl.o _ _ _ _ hs
   have hk14:=hs.frame
   clear hs hb
   go_wp2_with fail
   refine cM HTt.o ?_
   rintro e w15 ⟨rfl,hk15⟩
   have hb15:=zad hb14 hk15
   have hkE:Kp [] w9 ((((w15.setCell ⟨w12.heap.size,0,none⟩ (.int .i64 ka)).setCell ⟨w12.heap.size,1,none⟩ (.string na)).setCell ⟨w12.heap.size,2,none⟩ (.string oa)).setCell ⟨w12.heap.size,3,none⟩ (.int .i64 sa)):=zlh (hk14.trans hk15) hz9 _ _ _ _
   have hb16:=ziq hb15 (.int .i64 ka) (.string na) (.string oa) (.int .i64 sa)
   obtain⟨x0,x1,x2,x3,xf,xl⟩:=zb1 hb15
   have xf0:=xf 0
   have xf1:=xf 1
   have xf2:=xf 2
   have xf3:=xf 3
   have HkE:=zh hkE
   have Hb16:=zh hb16
   clear hkE xf hb14 hb15 hb16 hk14 hk15
   go_upto_region 21 with fail
   generalize (((w15.setCell _ _).setCell _ _).setCell _ _).setCell _ _=wE at *
   clear x0 x1 x2 x3 xf0 xf1 xf2 xf3 xl
   obtain⟨x0,x1,x2,x3,-,xl⟩:=zb1 Hb16.o
   obtain⟨y0,y1,y2,y3,-,yl⟩:=zb1 (zad H9.o.2.2.1 HkE.o)
   have n27:=neq27 ka na oa sa wE
   go_upto_region 23 with fail
   clear x0 x1 x2 x3 xl y0 y1 y2 y3 yl n27
   have hkE:=HkE.o
   obtain⟨x0,x1,x2,x3,-,xl⟩:=zb1 (zad H9.o.2.2.1 hkE)
   obtain⟨y0,y1,y2,y3,-,yl⟩:=zb1 (zad H9.o.2.2.2.1 hkE)
   have QE:=zh (H9.o.1.trans hkE)
   rcases Hab.o with e3 | ⟨e3,e4,e5,e6⟩
   ·have e3b:(ka == 3)=true:=by simpa using e3
    clear e3 hkE
    go_wp2_with fail
    exact bodyPost_ret (v:=.bool true) (by simp[results,Tryz.results3,go_sem]) rfl ⟨rfl,QE.o⟩
   ·rw[e3] at y0
    rw[e4] at y1
    rw[e5] at y2
    rw[e6] at y3
    have q27:=eql27 ka na oa sa wE
    clear e3 e4 e5 e6 hkE
    go_wp2_with fail
    all_goals exact bodyPost_ret (v:=.bool true) (by simp[results,Tryz.results3,go_sem]) rfl ⟨rfl,QE.o⟩
 ·have hfb:(fk != 0)=true:=by simpa using hfk
  clear hfk
  go_wp2_with fail
  exact bodyPost_ret (v:=.bool true) (by simp[results,Tryz.results3,go_sem]) rfl ⟨rfl,Q9.o⟩
end Go.Proofs.YtkcmachfagcnaaaGreatDoor
namespace Go.Proofs.YtkcmachfagcnaaaGreatDoor.C12
open Go.RowKit Go.Deep Go.ChangeShapes
theorem zum{H:Type}(d:DataW H):1<=Rows.uptoBulk d:=by
 cases d with
 | lit l=>cases l <;> simp[Rows.uptoBulk]
 | _=>simp[Rows.uptoBulk]
theorem zis{H α:Type}(g:α->List UInt8)(k:Nat):∀ (us:List α) (es:List (DataW H)),us.length=es.length->(∀ i (h:i < us.length) (h':i < es.length),(g (us[i]'h)).length<=k * Rows.uptoBulk (es[i]'h'))->(us.flatMap g).length<=k * Rows.uptoBulkAll es
 | [],_,_,_=>by simp
 | t :: ts,[],h,_=>by simp at h
 | t :: ts,e :: es,h,hk=>by
  rw[List.flatMap_cons,Rows.uptoBulkAll,lA,Nat.mul_add]
  have h0:=hk 0 (by simp) (by simp)
  have h1:=zis g k ts es (by simpa using h) (fun i hi hi'=>by have:=hk (i+1) (by simp;omega) (by simp;omega);simpa using this)
  simp at h0
  omega
section
variable{H:Type}{enc:TypeId×Value->H}{P:Program}{w:World}{base:Nat}{sp:Nat->Bool}{hd:Bool}
theorem zd3{t:TypeId}{f0 f1 f2:Field}{fuel:Nat}{cs:List Value}{x:DataW H×List MemPlace}(ht:P.underlying t=some (.struct #[f0,f1,f2]))(h:DataW.trod enc P w base sp hd fuel t cs=some x) :
  ∃ y0 y1 y2 n,x=(.agg [y0.1,y1.1,y2.1],y0.2++(y1.2++y2.2))/\fuel=n+1/\cs.length=P.cellsOf t/\DataW.trod enc P w base sp hd n f0.type ((cs.drop f0.offset).take (P.cellsOf f0.type))=some y0/\DataW.trod enc P w base sp hd n f1.type ((cs.drop f1.offset).take (P.cellsOf f1.type))=some y1/\DataW.trod enc P w base sp hd n f2.type ((cs.drop f2.offset).take (P.cellsOf f2.type))=some y2:=by
 obtain⟨xs,n,h1,h2,h3,h4,h5⟩:=DataW.trod_struct ht h
 match xs,h4 with
 | [y0,y1,y2],_=>
  refine⟨y0,y1,y2,n,by rw[h2];simp,h1,h3,?_,?_,?_⟩
  ·exact h5 0 f0 rfl
  ·exact h5 1 f1 rfl
  ·exact h5 2 f2 rfl
inductive RowIn{α:Type}(w:World)(n:Nat)(Q:List Value->DataW H->α->Prop)(cs:List Value)(d:DataW H):Prop
 | mk (p:Option Addr) (cap:Nat) (us:List α) (es:List (DataW H)) (hcs:cs=[.slice p us.length cap]) (hm:us.length<=maxLen) (hcap:us.length<=cap) (hes:us.length=es.length) (hbulk:Rows.uptoBulkAll es+1<=Rows.uptoBulk d)
   (hat:∀ i (hi:i < us.length),∃ b o c,p=some ⟨b,o,none⟩/\(∀ j,j < n->w.cell? ⟨b,o+(i * n+j),none⟩=c[j]?)/\c.length=n/\∃ (hi':i < es.length),Q c (es[i]'hi') (us[i]'hi)):RowIn w n Q cs d
theorem zft{α:Type} [Inhabited α]{te ts:TypeId}{n:Nat}(hs:P.underlying ts=some (.slice te))(hc:P.cellsOf te=n)(hn:0 < n)(Q:List Value->DataW H->α->Prop)(fuel:Nat)(key:∀ m,m < fuel->∀ (cs:List Value) (x:DataW H×List MemPlace),DataW.trod enc P w base sp hd m te cs=some x->∃ a,Q cs x.1 a)
  (cs:List Value) (x:DataW H×List MemPlace) (h:DataW.trod enc P w base sp hd fuel ts cs=some x):RowIn w n Q cs x.1:=by
 rcases DataW.trod_slice hs h with⟨rfl,rfl⟩ | ⟨a,len,cap,elems,rest,n',rfl,rfl,rfl,hb,hl,hmx,hel,hat,_,_⟩
 ·exact RowIn.mk none 0 [] [] rfl (Nat.zero_le _) (Nat.zero_le _) rfl (by simp[Rows.uptoBulk,Rows.uptoBulkAll]) (fun i hi=>absurd hi (Nat.not_lt_zero _))
 ·rw[hc] at hat
  have k1:∀ i,i < len->∃ q:List Value×α,(∀ j,j < n->w.cell? ((a.add (i * n)).add j)=q.1[j]?)/\q.1.length=n/\∀ (hi':i < elems.length),Q q.1 (elems[i]'hi').1 q.2:=by
   intro i hi
   have h1:=hat i hi
   rw[gE (by omega)] at h1
   obtain⟨cs',h2,h3⟩:=Option.bind_eq_some_iff.1 h1
   obtain⟨T,hT⟩:=key n' (by omega) cs' _ h3
   obtain⟨_,hl5,hcell⟩:=World.cells?_some h2
   exact⟨(cs',T),hcell,hl5,fun _=>hT⟩
  obtain⟨F,hF⟩:=choose_lt (α:=List Value×α) k1
  have has:((List.range len).map fun i=>(F i).2).length=len:=by simp
  refine RowIn.mk (some a) cap ((List.range len).map fun i=>(F i).2) (elems.map (·.1)) (by rw[has]) (by rw[has];omega) (by rw[has];exact hl) (by rw[has];simp[hel]) (by simp only[Rows.uptoBulk];omega) ?_
  intro i hi
  rw[has] at hi
  obtain⟨b,o,spot⟩:=a
  have hc0:=(hF 0 (by omega)).1 0 hn
  rw[gE (by rw[(hF 0 (by omega)).2.1];omega)] at hc0
  have hspot:spot=none:=by simpa [Addr.add] using World.cell?_spot hc0
  subst hspot
  refine⟨b,o,(F i).1,rfl,fun j hj=>?_,(hF i hi).2.1,by simp;omega,?_⟩
  ·have:=(hF i hi).1 j hj
   rw[add_add,Go.WideShapes.add_plain] at this
   exact this
  ·simp only[List.getElem_map,List.getElem_range]
   exact(hF i hi).2.2 (by omega)
end
section
variable{H:Type}{enc:TypeId×Value->H}{w:World}{base:Nat}{sp:Nat->Bool}{hd:Bool}
theorem zrp:Tryz.prog.cellsOf 44=3:=by kernel_rfl
theorem zro:Tryz.prog.cellsOf 47=3:=by kernel_rfl
theorem zxz:Tryz.prog.cellsOf 9=1:=by kernel_rfl
theorem zu4:Tryz.prog.cellsOf 3=1:=by kernel_rfl
theorem zwp:Tryz.prog.cellsOf 45=1:=by kernel_rfl
theorem zws:Tryz.prog.cellsOf 22=1:=by kernel_rfl
theorem zwr:Tryz.prog.cellsOf 23=1:=by kernel_rfl
theorem zwq:Tryz.prog.cellsOf 25=2:=by kernel_rfl
theorem zgs{fuel:Nat}{cs:List Value}{x:DataW H×List MemPlace}(h:DataW.trod enc Tryz.prog w base sp hd fuel 3 cs=some x):∃ k,cs=[.int .i64 k]:=by
 obtain⟨k,hk,_,_⟩:=DataW.trod_int Tryz.underlying3 h
 exact⟨k,hk⟩
theorem znr(fuel:Nat)(cs:List Value)(x:DataW H×List MemPlace)(h:DataW.trod enc Tryz.prog w base sp hd fuel 22 cs=some x):∃ p cap ts,cs=[.slice p (ts:List ByteArray).length cap]/\zX w p ts/\(ts.flatMap textB).length<=9 * Rows.uptoBulk x.1:=by
 have hr:=zft Tryz.underlying22 zxz (by omega) (fun cs d (t:ByteArray)=>cs=[.string t]/\(textB t).length<=9 * Rows.uptoBulk d) fuel (fun m hm cs x h=>by
  obtain⟨s,hs,hx,_⟩:=DataW.trod_string Tryz.underlying9 h
  refine⟨s,hs,?_⟩
  subst hx
  have hl:s.data.toList.length=s.size:=Array.length_toList
  simp only[textB,lA,zay,hl,Rows.uptoBulk]
  omega) cs x h
 cases hr with
 | mk p cap us es hcs hm hcap hes hbulk hat=>
 refine⟨p,cap,us,hcs,⟨by unfold maxLen at hm;omega,?_⟩,?_⟩
 ·intro i hi
  obtain⟨b,o,c,rfl,hc,hl,_,rfl,_⟩:=hat i hi
  have g0:=hc 0 (by omega)
  simp only[Nat.mul_one,Nat.add_zero,List.getElem?_cons_zero] at g0
  exact⟨b,o,rfl,World.block_lt_of_cell? _ _ g0,g0⟩
 ·have h1:=zis textB 9 us es hes (fun i hi hi'=>by obtain⟨_,_,_,_,_,_,_,_,h⟩:=hat i hi;exact h)
  omega
theorem zsx(fuel:Nat)(cs:List Value)(x:DataW H×List MemPlace)(h:DataW.trod enc Tryz.prog w base sp hd fuel 45 cs=some x):∃ p cap l,cs=[.slice p (l:List In).length cap]/\InsIn w p l/\(l.flatMap In.bytes).length+9<=9 * Rows.uptoBulk x.1:=by
 have hr:=zft Tryz.underlying45 zrp (by omega) (fun cs (d:DataW H) (t:In)=>cs=[.int .i64 t.op,.int .i64 t.a,.int .i64 t.b]) fuel (fun m hm cs x h=>by
  obtain⟨y0,y1,y2,n,rfl,rfl,hlen,e0,e1,e2⟩:=zd3 Tryz.underlying44 h
  rw[zrp] at hlen
  simp only[zu4] at e0 e1 e2
  match cs,hlen with
  | [c0,c1,c2],_=>
   obtain⟨k0,h0⟩:=zgs e0
   obtain⟨k1,h1⟩:=zgs e1
   obtain⟨k2,h2⟩:=zgs e2
   refine⟨⟨k0,k1,k2⟩,?_⟩
   simp at h0 h1 h2
   rw[h0,h1,h2]) cs x h
 cases hr with
 | mk p cap us es hcs hm hcap hes hbulk hat=>
 refine⟨p,cap,us,hcs,⟨by unfold maxLen at hm;omega,?_⟩,?_⟩
 ·intro i hi
  obtain⟨b,o,c,rfl,hc,hl,_,rfl⟩:=hat i hi
  have g:∀ j,j < 3->w.cell? ⟨b,o+i * 3+j,none⟩=([Value.int .i64 (us[i]'hi).op,.int .i64 (us[i]'hi).a,.int .i64 (us[i]'hi).b]:List Value)[j]?:=fun j hj=>by rw[Nat.add_assoc];exact hc j hj
  have g0:=g 0 (by omega)
  exact⟨b,o,rfl,World.block_lt_of_cell? _ _ g0,g0,g 1 (by omega),g 2 (by omega)⟩
 ·have h1:=zis In.bytes 9 us es hes (fun i hi hi'=>by have:=(us[i]'hi).bytes_len;have:=zum (es[i]'hi');omega)
  omega
theorem zp3(fuel:Nat)(cs:List Value)(x:DataW H×List MemPlace)(h:DataW.trod enc Tryz.prog w base sp hd fuel 23 cs=some x):∃ p cap fs,cs=[.slice p (fs:List Fn).length cap]/\zF w p fs/\(fs.flatMap Fn.bytes).length<=9 * Rows.uptoBulk x.1:=by
 have hr:=zft Tryz.underlying23 zro (by omega) (fun cs (d:DataW H) (t:Fn)=>∃ q qc,cs=[.int .i64 t.free,.int .i64 t.sA,.slice q t.ins.length qc]/\InsIn w q t.ins/\t.bytes.length<=9 * Rows.uptoBulk d) fuel (fun m hm cs x h=>by
  obtain⟨y0,y1,y2,n,rfl,rfl,hlen,e0,e1,e2⟩:=zd3 Tryz.underlying47 h
  rw[zro] at hlen
  simp only[zu4,zwp] at e0 e1 e2
  match cs,hlen with
  | [c0,c1,c2],_=>
   obtain⟨k0,h0⟩:=zgs e0
   obtain⟨k1,h1⟩:=zgs e1
   obtain⟨q,qc,l,h2,hI,hb⟩:=zsx _ _ _ e2
   refine⟨⟨k0,k1,l⟩,q,qc,?_,hI,?_⟩
   ·simp at h0 h1 h2
    rw[h0,h1,h2]
   ·simp only[Fn.bytes,lA,zay,Rows.uptoBulk,Rows.uptoBulkAll]
    omega) cs x h
 cases hr with
 | mk p cap us es hcs hm hcap hes hbulk hat=>
 refine⟨p,cap,us,hcs,⟨by unfold maxLen at hm;omega,?_⟩,?_⟩
 ·intro i hi
  obtain⟨b,o,c,rfl,hc,hl,_,q,qc,rfl,hI,_⟩:=hat i hi
  have g:∀ j,j < 3->w.cell? ⟨b,o+i * 3+j,none⟩=([Value.int .i64 (us[i]'hi).free,.int .i64 (us[i]'hi).sA,.slice q (us[i]'hi).ins.length qc]:List Value)[j]?:=fun j hj=>by rw[Nat.add_assoc];exact hc j hj
  have g0:=g 0 (by omega)
  exact⟨b,o,q,qc,rfl,World.block_lt_of_cell? _ _ g0,⟨g0,g 1 (by omega),g 2 (by omega)⟩,hI⟩
 ·have h1:=zis Fn.bytes 9 us es hes (fun i hi hi'=>by obtain⟨_,_,_,_,_,_,_,_,_,_,_,h⟩:=hat i hi;exact h)
  omega
theorem zp4(fuel:Nat)(cs:List Value)(x:DataW H×List MemPlace)(h:DataW.trod enc Tryz.prog w base sp hd fuel 25 cs=some x):∃ (c:Cd) (p:Option Addr) (cap:Nat) (p':Option Addr) (cap':Nat),cs=[.slice p c.texts.length cap,.slice p' c.funs.length cap']/\zX w p c.texts/\zF w p' c.funs/\c.bytes.length<=18 * Rows.uptoBulk x.1:=by
 obtain⟨y0,y1,n,rfl,hl,h0,h1⟩:=trod_struct2 Tryz.underlying25 h
 rw[zwq] at hl
 simp only[zws,zwr] at h0 h1
 match cs,hl with
 | [c0,c1],_=>
  obtain⟨p,cap,ts,e0,hT,bT⟩:=znr _ _ _ h0
  obtain⟨p',cap',fs,e1,hF,bF⟩:=zp3 _ _ _ h1
  refine⟨⟨ts,fs⟩,p,cap,p',cap',?_,hT,hF,?_⟩
  ·simp at e0 e1
   rw[e0,e1]
  ·simp only[Cd.bytes,lA,zay,Rows.uptoBulk,Rows.uptoBulkAll]
   have:([77,76,49]:List UInt8).length=3:=rfl
   omega
end
end Go.Proofs.YtkcmachfagcnaaaGreatDoor.C12
namespace Go.Proofs.YtkcmachfagcnaaaGreatDoor.C12
open Go.ChangeShapes Go.WideShapes Go.ChangeAt Go.RowKit Go.Deep
theorem gWidths:Tryz.prog.globalNamed "mlcore/code.widths" = some 2:=by kernel_rfl
theorem gWidthsT:(Tryz.prog.globals[2]?).map (·.type)=some 98:=by kernel_rfl
theorem gShapes:Tryz.prog.globalNamed "mlcore/code.shapes" = some 3:=by kernel_rfl
theorem gShapesT:(Tryz.prog.globals[3]?).map (·.type)=some 101:=by kernel_rfl
theorem gSigns:Tryz.prog.globalNamed "mlcore/code.signs" = some 0:=by kernel_rfl
theorem gSignsT:(Tryz.prog.globals[0]?).map (·.type)=some 55:=by kernel_rfl
theorem zmw:Tryz.prog.cellsOf 3=1:=by kernel_rfl
theorem zuk:Tryz.prog.cellsOf 9=1:=by kernel_rfl
theorem zrl:Tryz.prog.cellsOf 98=4:=by kernel_rfl
theorem zh0:Tryz.prog.cellsOf 100=3:=by kernel_rfl
theorem zom:Tryz.prog.cellsOf 101=78:=by kernel_rfl
theorem zrn:Tryz.prog.cellsOf 55=15:=by kernel_rfl
theorem zeg{P:Program}{W:World}{n:String}{g:Nat}{cs:Array Value}(hg:P.globalNamed n=some g)(h:W.var? P n=some cs):∃ t fr,W.heap[g]? = some (.cells cs t fr):=by
 unfold World.var? at h
 rw[hg] at h
 simp only[Option.bind_some] at h
 split at h
 ·rename_i c t fr hh
  obtain rfl:=Option.some.inj h
  exact⟨t,fr,hh⟩
 ·cases h
theorem zdu{w:World}{n:String}{d:DataW Unit} : ∀ {l:List (String×DataW Unit)} {ps:List MemPlace},DataW.LaidVars Tryz.prog w l ps->(n,d)∈l->
  ∃ g t cs fuel p,Tryz.prog.globalNamed n=some g/\(Tryz.prog.globals[g]?).map (·.type)=some t/\w.var? Tryz.prog n=some cs/\DataW.trod (fun _=>()) Tryz.prog w 0 (fun _=>true) false fuel t cs.toList=some (d,p)
 | [],_,_,h=>by cases h
 | (n',d') :: r,ps,hl,h=>by
  obtain⟨g,t,cs,fuel,p,q,h1,h2,h3,h4,h5,_⟩:=hl
  rcases List.mem_cons.1 h with e | h
  ·cases e
   exact⟨g,t,cs,fuel,p,h1,h2,h3,h4⟩
  ·exact zdu h5 h
section
variable{H:Type}{enc:TypeId×Value->H}{w:World}{base:Nat}{sp:Nat->Bool}{held:Bool}{fuel:Nat}{cs:List Value}{p:List MemPlace}
theorem zdz{t:TypeId}{n:Nat}{ls:List (List UInt8)}(ht:Tryz.prog.underlying t=some (.array n 9))(hct:Tryz.prog.cellsOf t=n)
  (h:DataW.trod enc Tryz.prog w base sp held fuel t cs=some (.agg (ls.map fun l=>.lit (.string l)),p)):cs=ls.map fun l=>.string {data:=l.toArray}:=by
 obtain⟨xs,m,_,hx,hl,hxl,hf⟩:=DataW.trod_array ht h
 have hxs:ls.map (fun l=>(DataW.lit (.string l):DataW H))=xs.map (·.1):=by
  have:=congrArg Prod.fst hx
  simpa using this
 have hll:ls.length=n:=by
  have:=congrArg List.length hxs
  simp at this
  omega
 apply List.ext_getElem?
 intro i
 by_cases hi:i < n
 ·have hfi:=hf i hi
  have hxi:xs[i]? = some xs[i]:=gE (by omega)
  rw[hxi] at hfi
  obtain⟨s,hc,hs,_⟩:=DataW.trod_string Tryz.underlying9 hfi
  have h1:cs[i]? = some (.string s):=by
   have:=congrArg (·[0]?) hc
   rw[zuk,Nat.mul_one] at this
   simpa [List.getElem?_take,List.getElem?_drop] using this
  have h2:(ls.map (fun l=>(DataW.lit (.string l):DataW H)))[i]? = some (.lit (.string s.data.toList)):=by
   rw[hxs,List.getElem?_map,hxi,hs]
   rfl
  simp only[List.getElem?_map,Option.map_eq_some_iff,DataW.lit.injEq,Lit.string.injEq] at h2
  obtain⟨l,hl1,hl2⟩:=h2
  rw[h1,List.getElem?_map,hl1,hl2]
  simp
 ·rw[List.getElem?_eq_none (by omega),List.getElem?_eq_none (by simp;omega)]
theorem zix{t:TypeId}{n:Nat}{ls:List Int}(ht:Tryz.prog.underlying t=some (.array n 3))(hct:Tryz.prog.cellsOf t=n)
  (h:DataW.trod enc Tryz.prog w base sp held fuel t cs=some (.agg (ls.map fun l=>.lit (.int .i64 l)),p)):cs=ls.map fun l=>Value.int .i64 l:=by
 obtain⟨xs,m,_,hx,hl,hxl,hf⟩:=DataW.trod_array ht h
 have hxs:ls.map (fun l=>(DataW.lit (.int .i64 l):DataW H))=xs.map (·.1):=by
  have:=congrArg Prod.fst hx
  simpa using this
 have hll:ls.length=n:=by
  have:=congrArg List.length hxs
  simp at this
  omega
 apply List.ext_getElem?
 intro i
 by_cases hi:i < n
 ·have hfi:=hf i hi
  have hxi:xs[i]? = some xs[i]:=gE (by omega)
  rw[hxi] at hfi
  obtain⟨s,hc,hs,_⟩:=DataW.trod_int Tryz.underlying3 hfi
  have h1:cs[i]? = some (.int .i64 s):=by
   have:=congrArg (·[0]?) hc
   rw[zmw,Nat.mul_one] at this
   simpa [List.getElem?_take,List.getElem?_drop] using this
  have h2:(ls.map (fun l=>(DataW.lit (.int .i64 l):DataW H)))[i]? = some (.lit (.int .i64 s)):=by
   rw[hxs,List.getElem?_map,hxi,hs]
   rfl
  simp only[List.getElem?_map,Option.map_eq_some_iff,DataW.lit.injEq,Lit.int.injEq,true_and] at h2
  obtain⟨l,hl1,hl2⟩:=h2
  rw[h1,List.getElem?_map,hl1,hl2]
  simp
 ·rw[List.getElem?_eq_none (by omega),List.getElem?_eq_none (by simp;omega)]
theorem zj4{m:Nat}{us:List Value}{a b c:Int}{q:List MemPlace}(h:DataW.trod enc Tryz.prog w base sp held m 100 us=some (.agg [.lit (.int .i64 a),.lit (.int .i64 b),.lit (.int .i64 c)],q)):us=[.int .i64 a,.int .i64 b,.int .i64 c]:=by
 obtain⟨y0,y1,y2,n,hx,_,hl,h0,h1,h2⟩:=zd3 Tryz.underlying100 h
 rw[zh0] at hl
 match us,hl with
 | [u0,u1,u2],_=>
  obtain⟨n0,hc0,rfl,_⟩:=DataW.trod_int Tryz.underlying3 h0
  obtain⟨n1,hc1,rfl,_⟩:=DataW.trod_int Tryz.underlying3 h1
  obtain⟨n2,hc2,rfl,_⟩:=DataW.trod_int Tryz.underlying3 h2
  rw[zmw] at hc0 hc1 hc2
  simp at hc0 hc1 hc2 hx
  rw[hc0,hc1,hc2,hx.1.1,hx.1.2.1,hx.1.2.2]
theorem flat3(ls:List (Int×Int×Int)):∀ (cs:List Value),cs.length=ls.length * 3->(∀ i (hi:i < ls.length),(cs.drop (i * 3)).take 3=[Value.int .i64 (ls[i]'hi).1,.int .i64 (ls[i]'hi).2.1,.int .i64 (ls[i]'hi).2.2])->cs=ls.flatMap fun x=>[Value.int .i64 x.1,.int .i64 x.2.1,.int .i64 x.2.2]:=by
 induction ls with
 | nil=>intro cs h _;simpa using h
 | cons x ls ih=>
  intro cs h hi
  have h0:=hi 0 (by simp)
  simp only[Nat.zero_mul,List.drop_zero,List.getElem_cons_zero] at h0
  have e:=(List.take_append_drop 3 cs).symm
  rw[List.flatMap_cons,<-h0,<-ih (cs.drop 3) (by simp at h ⊢;omega) (fun i hi'=>by
   have:=hi (i+1) (by simp;omega)
   simp only[List.getElem_cons_succ] at this
   rw[List.drop_drop,show 3+i * 3=(i+1) * 3 by omega]
   exact this)]
  exact e
theorem zg8(h:DataW.trod enc Tryz.prog w base sp held fuel 101 cs=some (Rows.laid_mlcore_code_shapes,p)):cs=shapeCells.toList:=by
 obtain⟨xs,m,_,hx,hl,hxl,hf⟩:=DataW.trod_array Tryz.underlying101 h
 rw[zom] at hl
 rw[zh0] at hf
 have hD:(Rows.laid_mlcore_code_shapes:DataW H)=.agg ((kindT.zip (takeT.zip putT)).map fun x=>.agg [.lit (.int .i64 x.1),.lit (.int .i64 x.2.1),.lit (.int .i64 x.2.2)]):=rfl
 have hxs:((kindT.zip (takeT.zip putT)).map fun x=>(DataW.agg [.lit (.int .i64 x.1),.lit (.int .i64 x.2.1),.lit (.int .i64 x.2.2)]:DataW H))=xs.map (·.1):=by
  have:=congrArg Prod.fst hx
  rw[hD] at this
  simpa only[DataW.agg.injEq] using this
 show cs=(kindT.zip (takeT.zip putT)).flatMap fun x=>[Value.int .i64 x.1,.int .i64 x.2.1,.int .i64 x.2.2]
 have hL:(kindT.zip (takeT.zip putT)).length=26:=rfl
 generalize kindT.zip (takeT.zip putT)=ls at *
 refine flat3 ls cs (by omega) fun i hi=>?_
 have hfi:=hf i (by omega)
 have hxi:xs[i]? = some xs[i]:=gE (by omega)
 rw[hxi] at hfi
 have h2:(ls.map fun x=>(DataW.agg [.lit (.int .i64 x.1),.lit (.int .i64 x.2.1),.lit (.int .i64 x.2.2)]:DataW H))[i]? = some xs[i].1:=by
  rw[hxs,List.getElem?_map,hxi]
  rfl
 rw[List.getElem?_map,gE hi] at h2
 simp only[Option.map_some,Option.some.injEq] at h2
 have h3:DataW.trod enc Tryz.prog w base sp held m 100 ((cs.drop (i * 3)).take 3)=some (.agg [.lit (.int .i64 (ls[i]'hi).1),.lit (.int .i64 (ls[i]'hi).2.1),.lit (.int .i64 (ls[i]'hi).2.2)],xs[i].2):=by rw[hfi,h2]
 exact zj4 h3
end
theorem zlg{w:World}{l:List (String×DataW Unit)}(h:laidMet Tryz.prog l w)(hm:("mlcore/code.shapes",Rows.laid_mlcore_code_shapes)∈l):ShIn w:=by
 obtain⟨ps,hl,_⟩:=h
 obtain⟨g,t,cs,fuel,p,hg,ht,hv,hd⟩:=zdu hl hm
 obtain rfl:=Option.some.inj (gShapes.symm.trans hg)
 obtain rfl:=Option.some.inj (gShapesT.symm.trans ht)
 have e:=zg8 hd
 obtain⟨t,fr,hh⟩:=zeg gShapes hv
 exact⟨⟨t,fr,by rw[hh,Array.toList_inj.1 e]⟩⟩
theorem zlf{w:World}{l:List (String×DataW Unit)}(h:laidMet Tryz.prog l w)(hm:("mlcore/code.widths",Rows.laid_mlcore_code_widths)∈l):WdIn w:=by
 obtain⟨ps,hl,_⟩:=h
 obtain⟨g,t,cs,fuel,p,hg,ht,hv,hd⟩:=zdu hl hm
 obtain rfl:=Option.some.inj (gWidths.symm.trans hg)
 obtain rfl:=Option.some.inj (gWidthsT.symm.trans ht)
 have e:cs.toList=widthCells.toList:=zix (ls:=widthT) Tryz.underlying98 zrl hd
 obtain⟨t,fr,hh⟩:=zeg gWidths hv
 exact⟨⟨t,fr,by rw[hh,Array.toList_inj.1 e]⟩⟩
theorem zn0{w:World}{l:List (String×DataW Unit)}(h:laidMet Tryz.prog l w)(hm:("mlcore/code.signs",Rows.laid_mlcore_code_signs)∈l):SgIn w:=by
 obtain⟨ps,hl,_⟩:=h
 obtain⟨g,t,cs,fuel,p,hg,ht,hv,hd⟩:=zdu hl hm
 obtain rfl:=Option.some.inj (gSigns.symm.trans hg)
 obtain rfl:=Option.some.inj (gSignsT.symm.trans ht)
 have e:cs.toList=signCells.toList:=zdz (ls:=signT) Tryz.underlying55 zrn hd
 obtain⟨t,fr,hh⟩:=zeg gSigns hv
 exact⟨⟨t,fr,by rw[hh,Array.toList_inj.1 e]⟩⟩
end Go.Proofs.YtkcmachfagcnaaaGreatDoor.C12
namespace Go.Proofs.YtkcmachfagcnaaaGreatDoor.C12
open Go.ChangeShapes Go.WideShapes Go.RowKit
theorem gEt:Tryz.prog.globalNamed "errors.errorType" = some 4:=by kernel_rfl
theorem rt163:(Tryz.prog.cutTypes.find? (·.1 == "internal/reflectlite.rtype")).map (·.2)=some 163:=by kernel_rfl
theorem zsz:((List.range 285).filter fun t=>Tryz.prog.rowNamed t [101,114,114,111,114])=[80]:=by kernel_rfl
theorem zsc:Tryz.prog.types.size=285:=by kernel_rfl
theorem ztw:typeHandle Tryz.prog 80=.pointer (some ⟨12,80,none⟩):=by kernel_rfl
theorem zw6{W:World}{hs:List (String×DataW Unit)}(h:handlesMet Tryz.prog hs W)(hm:("errors.errorType",Rows.laid_errors_errorType)∈hs):EtIn W:=by
 obtain⟨name,u,ty,e1,e2,e3,e4,e5⟩:=h _ hm
 have en:=(Option.some.inj e1).symm
 subst en
 obtain rfl:=Option.some.inj (rt163.symm.trans e2)
 have hm:ty∈(List.range 285).filter fun t=>Tryz.prog.rowNamed t [101,114,114,111,114]:=List.mem_filter.2 ⟨List.mem_range.2 (by rw[<-zsc];exact e3),e4⟩
 rw[zsz] at hm
 obtain rfl:=List.mem_singleton.1 hm
 rw[ztw] at e5
 obtain⟨t,fr,hh⟩:=zeg gEt e5
 exact⟨⟨t,fr,hh⟩⟩
end Go.Proofs.YtkcmachfagcnaaaGreatDoor.C12
