/- Part of Greater. -/
import Derived.Test.YtkcmachfagcnaaaGreatDoorB31
set_option maxHeartbeats 8000000
set_option maxRecDepth 100000
namespace Go.Proofs.YtkcmachfagcnaaaGreatDoor
open Go.RowKit Go.Deep Go.IntWalk
open C12 (Cd Fn In zT)
section
variable{X:Fx}{w:World}{g:Pg}{m:AM}{R:Int->Int->Prop}
theorem zkf(hd:okD X.cd m.D)(cb:Nat):∀ (f:Nat) {w:World},J X w g m R->∀ (p:Nat),CmpB X cb p w->CmpO X g cb w->p<=1000->1001<=p+f->∀ (a b c d:Cl),zI R a b->zI R c d->Calls Tryz.prog 119 #[.pointer (some ⟨cb,0,none⟩),.agg #[.bool a.p,.int .i64 a.n],.agg #[.bool c.p,.int .i64 c.n]] w fun e w'=>e=.returned (.bool (zL m.D f p b d).1)/\CmpB X cb (zL m.D f p b d).2 w'/\((zL m.D f p b d).1=true->(zL m.D f p b d).2<=1000)/\(zL m.D f p b d).2<=1001/\p<=(zL m.D f p b d).2/\Kp [cb] w w'
 | 0,w,h,p,hcb,ho,hp,hpf,a,b,c,d,hab,hcd=>by omega
 | f+1,w,h,p,hcb,ho,hp,hpf,a,b,c,d,hab,hcd=>by
  have IH:Hid (∀ {w:World},J X w g m R->∀ (p:Nat),CmpB X cb p w->CmpO X g cb w->p<=1000->1001<=p+f->∀ (a b c d:Cl),zI R a b->zI R c d->Calls Tryz.prog 119 #[.pointer (some ⟨cb,0,none⟩),.agg #[.bool a.p,.int .i64 a.n],.agg #[.bool c.p,.int .i64 c.n]] w fun e w'=>e=.returned (.bool (zL m.D f p b d).1)/\CmpB X cb (zL m.D f p b d).2 w'/\((zL m.D f p b d).1=true->(zL m.D f p b d).2<=1000)/\(zL m.D f p b d).2<=1001/\p<=(zL m.D f p b d).2/\Kp [cb] w w'):=zkf hd cb f
  obtain⟨ap,an⟩:=a
  obtain⟨cp,cn⟩:=c
  simp only
  obtain⟨qq,hqq⟩:∃ qq:Nat,qq=p+1:=⟨_,rfl⟩
  have Hqq:=zh hqq
  have hk1:Kp [] w ((w.alloc (.cells #[.bool ap,.int .i64 an] 67)).alloc (.cells #[.bool cp,.int .i64 cn] 67)):=kA.trans kA
  have hJ1:=h.kp hk1
  have hcb1:=hcb.kp hk1
  have Hcb:=zh (hcb1.set qq)
  have hk2:Kp [cb] ((w.alloc (.cells #[.bool ap,.int .i64 an] 67)).alloc (.cells #[.bool cp,.int .i64 cn] 67)) (((w.alloc (.cells #[.bool ap,.int .i64 an] 67)).alloc (.cells #[.bool cp,.int .i64 cn] 67)).setCell ⟨cb,1,none⟩ (.int .i64 (qq:Int))):=Kp.setCell _ _ (by simp) _
  have HJ:=zh (hJ1.cmp ⟨ho.off,ho.lo⟩ hk2)
  have HKw:=zh ((hk1.mono (by simp)).trans hk2)
  have Ho:=zh ho
  have hne1:cb≠w.heap.size:=by have:=hcb.at.2.2.2;omega
  have hne2:cb≠w.heap.size+1:=by have:=hcb.at.2.2.2;omega
  have b1:=(hk2.block _ (by simp;omega) (by simp;omega)).trans (zaj (zab w (.cells #[.bool ap,.int .i64 an] 67)) (.cells #[.bool cp,.int .i64 cn] 67))
  have b2:(((w.alloc (.cells #[.bool ap,.int .i64 an] 67)).alloc (.cells #[.bool cp,.int .i64 cn] 67)).setCell ⟨cb,1,none⟩ (.int .i64 (qq:Int))).heap[w.heap.size+1]? = some (.cells #[.bool cp,.int .i64 cn] 67):=by
   have e:=zab (w.alloc (.cells #[.bool ap,.int .i64 an] 67)) (.cells #[.bool cp,.int .i64 cn] 67)
   rw[size_alloc] at e
   exact(hk2.block _ (by simp) (by simp;omega)).trans e
  have HF:Hid (∀ wx,Kp [] (((w.alloc (.cells #[.bool ap,.int .i64 an] 67)).alloc (.cells #[.bool cp,.int .i64 cn] 67)).setCell ⟨cb,1,none⟩ (.int .i64 (qq:Int))) wx->(wx.cell? ⟨cb,0,none⟩=some (.pointer (some ⟨X.mm,0,none⟩))/\cb < wx.heap.size)/\(wx.cell? ⟨w.heap.size,0,none⟩=some (.bool ap)/\wx.cell? ⟨w.heap.size,1,none⟩=some (.int .i64 an)/\w.heap.size < wx.heap.size)/\wx.cell? ⟨w.heap.size+1,0,none⟩=some (.bool cp)/\wx.cell? ⟨w.heap.size+1,1,none⟩=some (.int .i64 cn)/\w.heap.size+1 < wx.heap.size):=fun wx hx=>by
   have e0:=(Hcb.o.kp hx).at
   have e1:=zaa (zad b1 hx)
   have e2:=zaa (zad b2 hx)
   exact⟨⟨e0.1,e0.2.2.2⟩,⟨e1.1,e1.2.1,e1.2.2.2.2⟩,e2.1,e2.2.1,e2.2.2.2.2⟩
  obtain⟨c0,c1,c2,c3⟩:=hcb1.at
  have hw1:IntKind.i64.wrap ((p:Int)+1)=(qq:Int):=by rw[IntKind.wrap_i64];omega
  have d1:=Hcb.o.at.2.1
  have d3:=Hcb.o.at.2.2.2
  clear hk1 hJ1 hcb1 hk2 hcb ho hne1 hne2 b1 b2 h hqq
  have HA2:Hid (∀ wx,Kp [] (((w.alloc (.cells #[.bool ap,.int .i64 an] 67)).alloc (.cells #[.bool cp,.int .i64 cn] 67)).setCell ⟨cb,1,none⟩ (.int .i64 (qq:Int))) wx->_):=zbl HJ.o ⟨ap,an⟩ b hab 2
  have HC2:Hid (∀ wx,Kp [] (((w.alloc (.cells #[.bool ap,.int .i64 an] 67)).alloc (.cells #[.bool cp,.int .i64 cn] 67)).setCell ⟨cb,1,none⟩ (.int .i64 (qq:Int))) wx->_):=zbl HJ.o ⟨cp,cn⟩ d hcd 2
  have HA0:Hid (∀ wx,Kp [] (((w.alloc (.cells #[.bool ap,.int .i64 an] 67)).alloc (.cells #[.bool cp,.int .i64 cn] 67)).setCell ⟨cb,1,none⟩ (.int .i64 (qq:Int))) wx->_):=zbl HJ.o ⟨ap,an⟩ b hab 0
  have HC0:Hid (∀ wx,Kp [] (((w.alloc (.cells #[.bool ap,.int .i64 an] 67)).alloc (.cells #[.bool cp,.int .i64 cn] 67)).setCell ⟨cb,1,none⟩ (.int .i64 (qq:Int))) wx->_):=zbl HJ.o ⟨cp,cn⟩ d hcd 0
  have Hab:Hid (_/\_):=⟨hab,hcd⟩
  have Hd:=zh hd
  have HK0:Hid (Kp [] (((w.alloc (.cells #[.bool ap,.int .i64 an] 67)).alloc (.cells #[.bool cp,.int .i64 cn] 67)).setCell ⟨cb,1,none⟩ (.int .i64 (qq:Int))) (((w.alloc (.cells #[.bool ap,.int .i64 an] 67)).alloc (.cells #[.bool cp,.int .i64 cn] 67)).setCell ⟨cb,1,none⟩ (.int .i64 (qq:Int))).drew):=kr.drew
  clear hab hcd hd
  generalize hP:(fun(e:Ending) (w':World)=>e=.returned (.bool (zL m.D (f+1) p b d).1)/\CmpB X cb (zL m.D (f+1) p b d).2 w'/\((zL m.D (f+1) p b d).1=true->(zL m.D (f+1) p b d).2<=1000)/\(zL m.D (f+1) p b d).2<=1001/\p<=(zL m.D (f+1) p b d).2/\Kp [cb] w w')=P
  have HP:=zh hP
  clear hP
  by_cases hbig:1000 < qq
  ·have hb2:(1000:Int) < (qq:Int):=by omega
   have hres:zL m.D (f+1) p b d=(false,qq):=by rw[zL,if_pos (by have:=Hqq.o;omega),Hqq.o]
   have Q:Hid (P (.returned (.bool false)) (((w.alloc (.cells #[.bool ap,.int .i64 an] 67)).alloc (.cells #[.bool cp,.int .i64 cn] 67)).setCell ⟨cb,1,none⟩ (.int .i64 (qq:Int)))):=by
    unfold Hid
    rw[<-HP.o]
    simp only[hres]
    exact⟨trivial,Hcb.o,(fun e=>by cases e),by have:=Hqq.o;omega,by have:=Hqq.o;omega,HKw.o⟩
   clear IH hres
   go_enter Tryz.func119,Tryz.ntmps119
   go_wp2_with fail
   exact Q.o
  ·have hb2:¬ (1000:Int) < (qq:Int):=by omega
   go_enter Tryz.func119,Tryz.ntmps119
   go_upto_region 4 with fail
   generalize ((w.alloc _).alloc _).setCell _ _=w2 at *
   cases k1:thK m.D b 2 with
   | false=>
    have hno:¬ ((thK m.D b 2 && thK m.D d 2)=true):=by rw[k1,Bool.false_and];exact Bool.false_ne_true
    rw[k1] at HA2
    refine rQ HK0.o (fun ops Hops=>?_)
    iterate 7
     (refine wQ ?_;apply xI;(·intro wx hwx;obtain⟨⟨f0,f1⟩,⟨x0,x1,x2⟩,y0,y1,y2⟩:=HF.o wx hwx;go_simp <;> first | with_reducible rfl | with_reducible exact⟨rfl,rfl⟩ | exact HA2.o _ hwx);try go_simp)
    iterate 6
     (refine wU ?_;go_simp)
    iterate 2
     (refine wQ ?_;apply xI;(·intro wx hwx;go_simp <;> first | rfl | exact⟨rfl,rfl⟩);try go_simp)
    refine wpQuiet_nil ?_
    clear Hops ops
    intro w3 hw3
    have Hw3:=zh hw3
    clear hw3
    have HK3:=zh Hw3.o.drew
    go_upto_region 6 with fail
    cases k3:thK m.D b 0 with
    | false=>
     rw[k3] at HA0
     have hres:zL m.D (f+1) p b d=(decide (b=d),qq):=by
      rw[zL,if_neg (by have:=Hqq.o;omega),if_neg hno,k3,Bool.false_and,if_neg Bool.false_ne_true,Hqq.o]
     refine rQ HK3.o (fun ops Hops=>?_)
     iterate 7
      (refine wQ ?_;apply xI;(·intro wx hwx;obtain⟨⟨f0,f1⟩,⟨x0,x1,x2⟩,y0,y1,y2⟩:=HF.o wx hwx;go_simp <;> first | with_reducible rfl | with_reducible exact⟨rfl,rfl⟩ | exact HA0.o _ hwx);try go_simp)
     iterate 6
      (refine wU ?_;go_simp)
     iterate 2
      (refine wQ ?_;apply xI;(·intro wx hwx;go_simp <;> first | rfl | exact⟨rfl,rfl⟩);try go_simp)
     refine wpQuiet_nil ?_
     clear Hops ops
     intro w4 hw4
     have Hw4:=zh hw4
     clear hw4
     obtain⟨⟨f0,f1⟩,⟨x0,x1,x2⟩,y0,y1,y2⟩:=HF.o w4 Hw4.o
     have HC:Hid _:=ze4 w4 ap an cp cn
     rw[zg9 HJ.o.one Hab.o.1 Hab.o.2] at HC
     go_wp2_with fail
     refine cM HC.o ?_
     rintro e w5 ⟨rfl,hw5⟩
     have Q:Hid (P (.returned (.bool (decide (b=d)))) w5):=by
      unfold Hid
      rw[<-HP.o]
      simp only[hres]
      exact⟨trivial,(Hcb.o.kp Hw4.o).kp hw5,fun _=>by omega,by omega,by have:=Hqq.o;omega,HKw.o.trans ((Hw4.o.trans hw5).mono (by simp))⟩
     clear f0 f1 x0 x1 x2 y0 y1 y2 hw5 hres
     generalize decide (b=d)=rb at *
     go_wp2_with fail
     exact Q.o
    | true=>
     rw[k3] at HA0
     cases k4:thK m.D d 0 with
     | false=>
      rw[k4] at HC0
      have hres:zL m.D (f+1) p b d=(decide (b=d),qq):=by
       rw[zL,if_neg (by have:=Hqq.o;omega),if_neg hno,k4,Bool.and_false,if_neg Bool.false_ne_true,Hqq.o]
      refine rQ HK3.o (fun ops Hops=>?_)
      repeat
       (refine wQ ?_;apply xI;(·intro wx hwx;obtain⟨⟨f0,f1⟩,⟨x0,x1,x2⟩,y0,y1,y2⟩:=HF.o wx hwx;go_simp <;> first | with_reducible rfl | with_reducible exact⟨rfl,rfl⟩ | with_reducible exact HA0.o _ hwx | with_reducible exact HC0.o _ hwx | exact HA0.o _ hwx | exact HC0.o _ hwx);try go_simp)
      refine wpQuiet_nil ?_
      clear Hops ops
      intro w4 hw4
      have Hw4:=zh hw4
      clear hw4
      obtain⟨⟨f0,f1⟩,⟨x0,x1,x2⟩,y0,y1,y2⟩:=HF.o w4 Hw4.o
      have HC:Hid _:=ze4 w4 ap an cp cn
      rw[zg9 HJ.o.one Hab.o.1 Hab.o.2] at HC
      go_wp2_with fail
      refine cM HC.o ?_
      rintro e w5 ⟨rfl,hw5⟩
      have Q:Hid (P (.returned (.bool (decide (b=d)))) w5):=by
       unfold Hid
       rw[<-HP.o]
       simp only[hres]
       exact⟨trivial,(Hcb.o.kp Hw4.o).kp hw5,fun _=>by omega,by omega,by have:=Hqq.o;omega,HKw.o.trans ((Hw4.o.trans hw5).mono (by simp))⟩
      clear f0 f1 x0 x1 x2 y0 y1 y2 hw5 hres
      generalize decide (b=d)=rb at *
      go_wp2_with fail
      exact Q.o
     | true=>
      rw[k4] at HC0
      obtain⟨q1,u,hu,hku⟩:=zat k3
      obtain⟨q2,v,hv,hkv⟩:=zat k4
      have hres:zL m.D (f+1) p b d=(if u.tag=v.tag/\u.fs.length=v.fs.length then rowA (zL m.D f) qq u.fs v.fs else(false,qq)):=by
       have e1:tagA m.D b.n=u.tag/\lenA m.D b.n=u.fs.length/\fsA m.D b.n=u.fs:=by unfold tagA lenA fsA;rw[hu];exact⟨rfl,rfl,rfl⟩
       have e2:tagA m.D d.n=v.tag/\lenA m.D d.n=v.fs.length/\fsA m.D d.n=v.fs:=by unfold tagA lenA fsA;rw[hv];exact⟨rfl,rfl,rfl⟩
       rw[zL,if_neg (by have:=Hqq.o;omega),if_neg hno,k3,k4,Bool.true_and,if_pos rfl,e1.1,e1.2.1,e1.2.2,e2.1,e2.2.1,e2.2.2,Hqq.o]
      refine rQ HK3.o (fun ops Hops=>?_)
      repeat
       (refine wQ ?_;apply xI;(·intro wx hwx;obtain⟨⟨f0,f1⟩,⟨x0,x1,x2⟩,y0,y1,y2⟩:=HF.o wx hwx;go_simp <;> first | with_reducible rfl | with_reducible exact⟨rfl,rfl⟩ | with_reducible exact HA0.o _ hwx | with_reducible exact HC0.o _ hwx | exact HA0.o _ hwx | exact HC0.o _ hwx);try go_simp)
      refine wpQuiet_nil ?_
      clear Hops ops
      intro w4 hw4
      have Hw4:=zh hw4
      clear hw4
      have hJ4:=HJ.o.kp Hw4.o
      have hcb4:=Hcb.o.kp Hw4.o
      have ho4:CmpO X g cb w4:=⟨Ho.o.off,Ho.o.lo⟩
      have HC:Hid _:=zgg hJ4 cb qq hcb4 ho4 ⟨ap,an⟩ b ⟨cp,cn⟩ d Hab.o.1 Hab.o.2 q1 q2 u v hu hv (Hd.o _ _ hu).len f (fun p' wx hwx hc hp1 hp2 a' b' c' d' h1 h2=>cM (IH.out (hJ4.cmp ho4 hwx) p' hc ⟨ho4.off,ho4.lo⟩ hp1 hp2 a' b' c' d' h1 h2) (fun e w' q=>⟨q.1,q.2.1,q.2.2.1,q.2.2.2.1,q.2.2.2.2.1,hwx.trans q.2.2.2.2.2⟩)) (by omega) (by have:=Hqq.o;omega)
      obtain⟨⟨f0,f1⟩,⟨x0,x1,x2⟩,y0,y1,y2⟩:=HF.o w4 Hw4.o
      clear hJ4 hcb4 ho4
      rw[<-hres] at HC
      go_wp2_with fail
      refine cM HC.o ?_
      rintro e w5 ⟨rfl,hc5,hr0,hr1,hr2,hk5⟩
      have Q:Hid (P (.returned (.bool (zL m.D (f+1) p b d).1)) w5):=by
       unfold Hid
       rw[<-HP.o]
       exact⟨rfl,hc5,hr0,hr1,by have:=Hqq.o;omega,HKw.o.trans ((Hw4.o.mono (by simp)).trans hk5)⟩
      clear f0 f1 x0 x1 x2 y0 y1 y2 hc5 hr0 hr1 hr2 hk5 hres
      generalize (zL m.D (f+1) p b d).1=rb at *
      go_wp2_with fail
      exact Q.o
   | true=>
    rw[k1] at HA2
    cases k2:thK m.D d 2 with
    | false=>
     have hno:¬ ((thK m.D b 2 && thK m.D d 2)=true):=by rw[k2,Bool.and_false];exact Bool.false_ne_true
     rw[k2] at HC2
     refine rQ HK0.o (fun ops Hops=>?_)
     repeat
      (refine wQ ?_;apply xI;(·intro wx hwx;obtain⟨⟨f0,f1⟩,⟨x0,x1,x2⟩,y0,y1,y2⟩:=HF.o wx hwx;go_simp <;> first | with_reducible rfl | with_reducible exact⟨rfl,rfl⟩ | with_reducible exact HA2.o _ hwx | with_reducible exact HC2.o _ hwx | exact HA2.o _ hwx | exact HC2.o _ hwx);try go_simp)
     refine wpQuiet_nil ?_
     clear Hops ops
     intro w3 hw3
     have Hw3:=zh hw3
     clear hw3
     have HK3:=zh Hw3.o.drew
     go_upto_region 6 with fail
     cases k3:thK m.D b 0 with
     | false=>
      rw[k3] at HA0
      have hres:zL m.D (f+1) p b d=(decide (b=d),qq):=by
       rw[zL,if_neg (by have:=Hqq.o;omega),if_neg hno,k3,Bool.false_and,if_neg Bool.false_ne_true,Hqq.o]
      refine rQ HK3.o (fun ops Hops=>?_)
      iterate 7
       (refine wQ ?_;apply xI;(·intro wx hwx;obtain⟨⟨f0,f1⟩,⟨x0,x1,x2⟩,y0,y1,y2⟩:=HF.o wx hwx;go_simp <;> first | with_reducible rfl | with_reducible exact⟨rfl,rfl⟩ | exact HA0.o _ hwx);try go_simp)
      iterate 6
       (refine wU ?_;go_simp)
      iterate 2
       (refine wQ ?_;apply xI;(·intro wx hwx;go_simp <;> first | rfl | exact⟨rfl,rfl⟩);try go_simp)
      refine wpQuiet_nil ?_
      clear Hops ops
      intro w4 hw4
      have Hw4:=zh hw4
      clear hw4
      obtain⟨⟨f0,f1⟩,⟨x0,x1,x2⟩,y0,y1,y2⟩:=HF.o w4 Hw4.o
      have HC:Hid _:=ze4 w4 ap an cp cn
      rw[zg9 HJ.o.one Hab.o.1 Hab.o.2] at HC
      go_wp2_with fail
      refine cM HC.o ?_
      rintro e w5 ⟨rfl,hw5⟩
      have Q:Hid (P (.returned (.bool (decide (b=d)))) w5):=by
       unfold Hid
       rw[<-HP.o]
       simp only[hres]
       exact⟨trivial,(Hcb.o.kp Hw4.o).kp hw5,fun _=>by omega,by omega,by have:=Hqq.o;omega,HKw.o.trans ((Hw4.o.trans hw5).mono (by simp))⟩
      clear f0 f1 x0 x1 x2 y0 y1 y2 hw5 hres
      generalize decide (b=d)=rb at *
      go_wp2_with fail
      exact Q.o
     | true=>
      rw[k3] at HA0
      cases k4:thK m.D d 0 with
      | false=>
       rw[k4] at HC0
       have hres:zL m.D (f+1) p b d=(decide (b=d),qq):=by
        rw[zL,if_neg (by have:=Hqq.o;omega),if_neg hno,k4,Bool.and_false,if_neg Bool.false_ne_true,Hqq.o]
       refine rQ HK3.o (fun ops Hops=>?_)
       repeat
        (refine wQ ?_;apply xI;(·intro wx hwx;obtain⟨⟨f0,f1⟩,⟨x0,x1,x2⟩,y0,y1,y2⟩:=HF.o wx hwx;go_simp <;> first | with_reducible rfl | with_reducible exact⟨rfl,rfl⟩ | with_reducible exact HA0.o _ hwx | with_reducible exact HC0.o _ hwx | exact HA0.o _ hwx | exact HC0.o _ hwx);try go_simp)
       refine wpQuiet_nil ?_
       clear Hops ops
       intro w4 hw4
       have Hw4:=zh hw4
       clear hw4
       obtain⟨⟨f0,f1⟩,⟨x0,x1,x2⟩,y0,y1,y2⟩:=HF.o w4 Hw4.o
       have HC:Hid _:=ze4 w4 ap an cp cn
       rw[zg9 HJ.o.one Hab.o.1 Hab.o.2] at HC
       go_wp2_with fail
       refine cM HC.o ?_
       rintro e w5 ⟨rfl,hw5⟩
       have Q:Hid (P (.returned (.bool (decide (b=d)))) w5):=by
        unfold Hid
        rw[<-HP.o]
        simp only[hres]
        exact⟨trivial,(Hcb.o.kp Hw4.o).kp hw5,fun _=>by omega,by omega,by have:=Hqq.o;omega,HKw.o.trans ((Hw4.o.trans hw5).mono (by simp))⟩
       clear f0 f1 x0 x1 x2 y0 y1 y2 hw5 hres
       generalize decide (b=d)=rb at *
       go_wp2_with fail
       exact Q.o
      | true=>
       rw[k4] at HC0
       obtain⟨q1,u,hu,hku⟩:=zat k3
       obtain⟨q2,v,hv,hkv⟩:=zat k4
       have hres:zL m.D (f+1) p b d=(if u.tag=v.tag/\u.fs.length=v.fs.length then rowA (zL m.D f) qq u.fs v.fs else(false,qq)):=by
        have e1:tagA m.D b.n=u.tag/\lenA m.D b.n=u.fs.length/\fsA m.D b.n=u.fs:=by unfold tagA lenA fsA;rw[hu];exact⟨rfl,rfl,rfl⟩
        have e2:tagA m.D d.n=v.tag/\lenA m.D d.n=v.fs.length/\fsA m.D d.n=v.fs:=by unfold tagA lenA fsA;rw[hv];exact⟨rfl,rfl,rfl⟩
        rw[zL,if_neg (by have:=Hqq.o;omega),if_neg hno,k3,k4,Bool.true_and,if_pos rfl,e1.1,e1.2.1,e1.2.2,e2.1,e2.2.1,e2.2.2,Hqq.o]
       refine rQ HK3.o (fun ops Hops=>?_)
       repeat
        (refine wQ ?_;apply xI;(·intro wx hwx;obtain⟨⟨f0,f1⟩,⟨x0,x1,x2⟩,y0,y1,y2⟩:=HF.o wx hwx;go_simp <;> first | with_reducible rfl | with_reducible exact⟨rfl,rfl⟩ | with_reducible exact HA0.o _ hwx | with_reducible exact HC0.o _ hwx | exact HA0.o _ hwx | exact HC0.o _ hwx);try go_simp)
       refine wpQuiet_nil ?_
       clear Hops ops
       intro w4 hw4
       have Hw4:=zh hw4
       clear hw4
       have hJ4:=HJ.o.kp Hw4.o
       have hcb4:=Hcb.o.kp Hw4.o
       have ho4:CmpO X g cb w4:=⟨Ho.o.off,Ho.o.lo⟩
       have HC:Hid _:=zgg hJ4 cb qq hcb4 ho4 ⟨ap,an⟩ b ⟨cp,cn⟩ d Hab.o.1 Hab.o.2 q1 q2 u v hu hv (Hd.o _ _ hu).len f (fun p' wx hwx hc hp1 hp2 a' b' c' d' h1 h2=>cM (IH.out (hJ4.cmp ho4 hwx) p' hc ⟨ho4.off,ho4.lo⟩ hp1 hp2 a' b' c' d' h1 h2) (fun e w' q=>⟨q.1,q.2.1,q.2.2.1,q.2.2.2.1,q.2.2.2.2.1,hwx.trans q.2.2.2.2.2⟩)) (by omega) (by have:=Hqq.o;omega)
       obtain⟨⟨f0,f1⟩,⟨x0,x1,x2⟩,y0,y1,y2⟩:=HF.o w4 Hw4.o
       clear hJ4 hcb4 ho4
       rw[<-hres] at HC
       go_wp2_with fail
       refine cM HC.o ?_
       rintro e w5 ⟨rfl,hc5,hr0,hr1,hr2,hk5⟩
       have Q:Hid (P (.returned (.bool (zL m.D (f+1) p b d).1)) w5):=by
        unfold Hid
        rw[<-HP.o]
        exact⟨rfl,hc5,hr0,hr1,by have:=Hqq.o;omega,HKw.o.trans ((Hw4.o.mono (by simp)).trans hk5)⟩
       clear f0 f1 x0 x1 x2 y0 y1 y2 hc5 hr0 hr1 hr2 hk5 hres
       generalize (zL m.D (f+1) p b d).1=rb at *
       go_wp2_with fail
       exact Q.o
    | true=>
     rw[k2] at HC2
     obtain⟨q1,u,hu,hku⟩:=zat k1
     obtain⟨q2,v,hv,hkv⟩:=zat k2
     have hres:zL m.D (f+1) p b d=(decide (u.tag=v.tag) && decide (u.fs=v.fs),qq):=by
      have e1:tagA m.D b.n=u.tag/\fsA m.D b.n=u.fs:=by unfold tagA fsA;rw[hu];exact⟨rfl,rfl⟩
      have e2:tagA m.D d.n=v.tag/\fsA m.D d.n=v.fs:=by unfold tagA fsA;rw[hv];exact⟨rfl,rfl⟩
      rw[zL,if_neg (by have:=Hqq.o;omega),k1,k2,Bool.true_and,if_pos rfl,e1.1,e1.2,e2.1,e2.2,Hqq.o]
     refine rQ HK0.o (fun ops Hops=>?_)
     repeat
      (refine wQ ?_;apply xI;(·intro wx hwx;obtain⟨⟨f0,f1⟩,⟨x0,x1,x2⟩,y0,y1,y2⟩:=HF.o wx hwx;go_simp <;> first | with_reducible rfl | with_reducible exact⟨rfl,rfl⟩ | with_reducible exact HA2.o _ hwx | with_reducible exact HC2.o _ hwx | exact HA2.o _ hwx | exact HC2.o _ hwx);try go_simp)
     refine wpQuiet_nil ?_
     clear Hops ops
     intro w3 hw3
     have Hw3:=zh hw3
     clear hw3
     have HC:Hid _:=zku (HJ.o.kp Hw3.o) cb qq (Hcb.o.kp Hw3.o) ⟨Ho.o.off,Ho.o.lo⟩ ⟨ap,an⟩ b ⟨cp,cn⟩ d Hab.o.1 Hab.o.2 q1 q2 u v hu hv (Hd.o _ _ hu).len ((Hd.o _ _ hu).tp hku) ((Hd.o _ _ hv).tp hkv)
     obtain⟨⟨f0,f1⟩,⟨x0,x1,x2⟩,y0,y1,y2⟩:=HF.o w3 Hw3.o
     go_wp2_with fail
     refine cM HC.o ?_
     rintro e w5 ⟨rfl,hw5⟩
     have Q:Hid (P (.returned (.bool (decide (u.tag=v.tag) && decide (u.fs=v.fs)))) w5):=by
      unfold Hid
      rw[<-HP.o]
      simp only[hres]
      exact⟨trivial,(Hcb.o.kp Hw3.o).kp hw5,fun _=>by omega,by omega,by have:=Hqq.o;omega,HKw.o.trans ((Hw3.o.trans hw5).mono (by simp))⟩
     clear f0 f1 x0 x1 x2 y0 y1 y2 hw5 hres
     generalize (decide (u.tag=v.tag) && decide (u.fs=v.fs))=rb at *
     go_wp2_with fail
     exact Q.o
theorem zf5(h:J X w g m R)(hd:okD X.cd m.D)(a b c d:Cl)(hab:zI R a b)(hcd:zI R c d)(al:Bool):Calls Tryz.prog 106 #[.pointer (some ⟨X.mm,0,none⟩),.agg #[.bool a.p,.int .i64 a.n],.agg #[.bool c.p,.int .i64 c.n],.bool al] w fun e w'=>zP X w g m (compA m.D b d al) e w':=by
 obtain⟨ap,an⟩:=a
 obtain⟨cp,cn⟩:=c
 simp only
 have hlo:=h.bl.size
 have hwc:=h.bl.size
 obtain⟨j1,m1,a1,o1⟩:=zbe h (.cells #[.bool ap,.int .i64 an] 67)
 obtain⟨j2,m2,a2,o2⟩:=zbe j1 (.cells #[.bool cp,.int .i64 cn] 67)
 rw[size_alloc] at a2 o2
 obtain⟨j3,m3,a3,o3⟩:=zbe j2 (.cells #[.bool false,.int .i64 0] 67)
 rw[size_alloc,size_alloc] at a3 o3
 have HB:Hid (_/\(((w.alloc (.cells #[.bool ap,.int .i64 an] 67)).alloc (.cells #[.bool cp,.int .i64 cn] 67)).alloc (.cells #[.bool false,.int .i64 0] 67)).heap[w.heap.size]? = some (.cells #[.bool ap,.int .i64 an] 67)/\Off X (((w.alloc (.cells #[.bool ap,.int .i64 an] 67)).alloc (.cells #[.bool cp,.int .i64 cn] 67)).alloc (.cells #[.bool false,.int .i64 0] 67)) g (w.heap.size)/\(((w.alloc (.cells #[.bool ap,.int .i64 an] 67)).alloc (.cells #[.bool cp,.int .i64 cn] 67)).alloc (.cells #[.bool false,.int .i64 0] 67)).heap[w.heap.size+1]? = some (.cells #[.bool cp,.int .i64 cn] 67)/\Off X (((w.alloc (.cells #[.bool ap,.int .i64 an] 67)).alloc (.cells #[.bool cp,.int .i64 cn] 67)).alloc (.cells #[.bool false,.int .i64 0] 67)) g (w.heap.size+1)/\_/\_/\_):=⟨((m1).trans m2).trans m3,(zaj (zaj a1 _) _),((o1.alloc _).alloc _),(zaj a2 _),(o2.alloc _),a3,o3,hwc⟩
 have HJ:=zh j3
 clear j1 m1 a1 o1 j2 m2 a2 o2 j3 m3 a3 o3 hwc
 have hk4:Kp [] (((w.alloc (.cells #[.bool ap,.int .i64 an] 67)).alloc (.cells #[.bool cp,.int .i64 cn] 67)).alloc (.cells #[.bool false,.int .i64 0] 67)) ((((w.alloc (.cells #[.bool ap,.int .i64 an] 67)).alloc (.cells #[.bool cp,.int .i64 cn] 67)).alloc (.cells #[.bool false,.int .i64 0] 67)).alloc (.cells #[.pointer (some {block:=X.mm,off:=0}),.int .i64 0] 221)):=kA
 have hJ4:=HJ.o.kp hk4
 have hcb:CmpB X (w.heap.size+1+1+1) 0 ((((w.alloc (.cells #[.bool ap,.int .i64 an] 67)).alloc (.cells #[.bool cp,.int .i64 cn] 67)).alloc (.cells #[.bool false,.int .i64 0] 67)).alloc (.cells #[.pointer (some {block:=X.mm,off:=0}),.int .i64 0] 221)):=by
  have e:=zab (((w.alloc (.cells #[.bool ap,.int .i64 an] 67)).alloc (.cells #[.bool cp,.int .i64 cn] 67)).alloc (.cells #[.bool false,.int .i64 0] 67)) (.cells #[.pointer (some {block:=X.mm,off:=0}),.int .i64 0] 221)
  rw[size_alloc,size_alloc,size_alloc] at e
  exact e
 have hoff:CmpO X g (w.heap.size+1+1+1) ((((w.alloc (.cells #[.bool ap,.int .i64 an] 67)).alloc (.cells #[.bool cp,.int .i64 cn] 67)).alloc (.cells #[.bool false,.int .i64 0] 67)).alloc (.cells #[.pointer (some {block:=X.mm,off:=0}),.int .i64 0] 221)):=⟨fun e=>by have:=h.fpt_lt _ e;omega,by omega⟩
 have HC:Hid _:=zkf hd (w.heap.size+1+1+1) 1001 hJ4 0 hcb hoff (by omega) (by omega) ⟨ap,an⟩ b ⟨cp,cn⟩ d hab hcd
 have HF:Hid ((((((w.alloc (.cells #[.bool ap,.int .i64 an] 67)).alloc (.cells #[.bool cp,.int .i64 cn] 67)).alloc (.cells #[.bool false,.int .i64 0] 67)).alloc (.cells #[.pointer (some {block:=X.mm,off:=0}),.int .i64 0] 221)).cell? ⟨w.heap.size,0,none⟩=some (.bool ap)/\((((w.alloc (.cells #[.bool ap,.int .i64 an] 67)).alloc (.cells #[.bool cp,.int .i64 cn] 67)).alloc (.cells #[.bool false,.int .i64 0] 67)).alloc (.cells #[.pointer (some {block:=X.mm,off:=0}),.int .i64 0] 221)).cell? ⟨w.heap.size,1,none⟩=some (.int .i64 an)/\w.heap.size < ((((w.alloc (.cells #[.bool ap,.int .i64 an] 67)).alloc (.cells #[.bool cp,.int .i64 cn] 67)).alloc (.cells #[.bool false,.int .i64 0] 67)).alloc (.cells #[.pointer (some {block:=X.mm,off:=0}),.int .i64 0] 221)).heap.size)/\((((w.alloc (.cells #[.bool ap,.int .i64 an] 67)).alloc (.cells #[.bool cp,.int .i64 cn] 67)).alloc (.cells #[.bool false,.int .i64 0] 67)).alloc (.cells #[.pointer (some {block:=X.mm,off:=0}),.int .i64 0] 221)).cell? ⟨w.heap.size+1,0,none⟩=some (.bool cp)/\((((w.alloc (.cells #[.bool ap,.int .i64 an] 67)).alloc (.cells #[.bool cp,.int .i64 cn] 67)).alloc (.cells #[.bool false,.int .i64 0] 67)).alloc (.cells #[.pointer (some {block:=X.mm,off:=0}),.int .i64 0] 221)).cell? ⟨w.heap.size+1,1,none⟩=some (.int .i64 cn)/\w.heap.size+1 < ((((w.alloc (.cells #[.bool ap,.int .i64 an] 67)).alloc (.cells #[.bool cp,.int .i64 cn] 67)).alloc (.cells #[.bool false,.int .i64 0] 67)).alloc (.cells #[.pointer (some {block:=X.mm,off:=0}),.int .i64 0] 221)).heap.size):=by
  have e1:=zaa (zad HB.o.2.1 hk4)
  have e2:=zaa (zad HB.o.2.2.2.1 hk4)
  exact⟨⟨e1.1,e1.2.1,e1.2.2.2.2⟩,e2.1,e2.2.1,e2.2.2.2.2⟩
 have HB4:Hid (_/\_):=⟨hk4,hoff⟩
 clear h hk4 hJ4 hcb hoff hlo hab hcd hd
 generalize hA:compA m.D b d al=act
 have HA:=zh hA
 clear hA
 unfold compA at HA
 generalize zL m.D 1001 0 b d=r at *
 obtain⟨rb,rq⟩:=r
 simp only at HA HC
 obtain⟨⟨f0,f1,f2⟩,e0,e1,e2⟩:=HF.o
 go_enter Tryz.func106,Tryz.ntmps106
 go_wp2_with fail
 refine cM HC.o ?_
 clear f0 f1 f2 e0 e1 e2
 rintro e w5 ⟨rfl,hc5,-,hr1,-,hk5⟩
 obtain⟨mv,a1,o1,a2,o2,a3,o3,hwc⟩:=HB.o
 obtain⟨hk4,hoff⟩:=HB4.o
 have hJ5:=(HJ.o.kp hk4).cmp hoff hk5
 have hm5:Mv X w g w5 g:=⟨(mv.kp.trans (hk4.mono (by simp))).then hk5 (fun x hx=>Or.inr (by rw[List.mem_singleton.1 hx];omega)),fun k hk=>Or.inl hk⟩
 have hbz:=(hk5.block _ (by have:=o3.1;have:=hk4.size;omega) (by simp)).trans (zad a3 hk4)
 have ho5:Off X w5 g (w.heap.size+1+1):=⟨by have:=o3.1;have:=hk4.size;have:=hk5.size;omega,o3.2⟩
 obtain⟨p0,p1,p2,p3⟩:=hc5.at
 have HS:Hid (_/\_/\_/\_/\_):=⟨hJ5,hm5,hbz,ho5,hwc⟩
 clear a1 o1 a2 o2 a3 o3 mv hwc hk4 hoff hJ5 hm5 hbz ho5 hc5 hk5
 by_cases hbig:1000 < rq
 ·rw[if_pos hbig] at HA
  have hb2:(1000:Int) < (rq:Int):=by omega
  obtain⟨hJ5,hm5,hbz,ho5,hwc⟩:=HS.o
  obtain⟨y0,y1,z0,z1,cl⟩:=zaa hbz
  obtain⟨d0,d1,_⟩:=zaa (zae hbz (.bool false) (.int .i64 0))
  have Q:Hid (zP X w g m act (.returned (.tuple #[.agg #[.bool false,.int .i64 0],.int .i64 (-6)])) ((w5.setCell ⟨w.heap.size+1+1,0,none⟩ (.bool false)).setCell ⟨w.heap.size+1+1,1,none⟩ (.int .i64 0))):=by
   unfold Hid
   rw[<-HA.o]
   exact zck (-6) ⟨by decide,by decide⟩ (fin2 hJ5 hm5 ho5 (by omega) hwc _ _)
  clear hJ5 hm5 hbz ho5 hwc hbig
  go_wp2_with fail
  exact bR (by simp[results,Tryz.results106,go_sem,d0,d1]) Q.o
 ·rw[if_neg hbig] at HA
  have hb2:¬ (1000:Int) < (rq:Int):=by omega
  have HT:Hid _:=zb2 w5 (rb == al)
  generalize hx:(if(rb == al)=true then(1:Int) else 0)=x at *
  have Hx:=zh hx
  clear hx
  generalize hbb:(rb == al)=bb at *
  go_wp2_with fail
  refine cM HT.o ?_
  rintro e w6 ⟨rfl,hw6⟩
  obtain⟨hJ5,hm5,hbz5,ho5,hwc⟩:=HS.o
  have hbz:=zad hbz5 hw6
  obtain⟨y0,y1,z0,z1,cl⟩:=zaa hbz
  obtain⟨d0,d1,_⟩:=zaa (zae hbz (.bool false) (.int .i64 x))
  have Q:Hid (zP X w g m act (.returned (.tuple #[.agg #[.bool false,.int .i64 x],.int .i64 0])) ((w6.setCell ⟨w.heap.size+1+1,0,none⟩ (.bool false)).setCell ⟨w.heap.size+1+1,1,none⟩ (.int .i64 x))):=by
   unfold Hid
   rw[<-HA.o]
   have h9:=fin2 (hJ5.kp hw6) (hm5.trans (Mv.zk hw6)) ⟨lL ho5.1 hw6.size,ho5.2⟩ (show w.heap.size<=w.heap.size+1+1 by omega) hwc (.bool false) (.int .i64 x)
   have e9:truth bb=num x:=by unfold truth;rw[Hx.o]
   rw[e9]
   exact za4 (p:=⟨false,x⟩) (zb5 _ _) (zco (by have:=Hx.o;cases bb <;> simp at this <;> omega)) h9
  clear hbz hJ5 hm5 hbz5 ho5 hwc hw6
  go_wp2_with fail
  exact bR (by simp[results,Tryz.results106,go_sem,d0,d1]) Q.o
end
end Go.Proofs.YtkcmachfagcnaaaGreatDoor
