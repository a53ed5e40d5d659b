/- Part of Greater. -/
import Derived.Test.YtkcmachfagcnaaaGreatDoorB30
set_option maxHeartbeats 8000000
set_option maxRecDepth 100000
namespace Go.Proofs.YtkcmachfagcnaaaGreatDoor
open Go.RowKit Go.Deep Go.IntWalk
open C12 (Cd Fn In zT)
def CmpB(X:Fx)(cb:Nat)(p:Nat)(w:World):Prop:=w.heap[cb]? = some (.cells #[.pointer (some ⟨X.mm,0,none⟩),.int .i64 p] 221)
section
variable{X:Fx}{w:World}{g:Pg}{m:AM}{R:Int->Int->Prop}
theorem CmpB.at{cb p:Nat}(h:CmpB X cb p w):w.cell? ⟨cb,0,none⟩=some (.pointer (some ⟨X.mm,0,none⟩))/\w.cell? ⟨cb,1,none⟩=some (.int .i64 p)/\w.frozen? ⟨cb,1,none⟩=false/\cb < w.heap.size:=by
 unfold CmpB at h
 refine⟨?_,?_,?_,(sz h)⟩ <;> simp[World.cell?,World.frozen?,h]
theorem CmpB.kp{cb p:Nat}{w':World}(h:CmpB X cb p w)(hk:Kp [] w w'):CmpB X cb p w':=zad h hk
theorem CmpB.set{cb p:Nat}(h:CmpB X cb p w)(k:Nat):CmpB X cb k (w.setCell ⟨cb,1,none⟩ (.int .i64 k)):=by
 unfold CmpB at h ⊢
 simp[World.setCell,Array.getElem?_modify,h]
structure CmpO(X:Fx)(g:Pg)(cb:Nat)(w:World):Prop where
 off:cb∉fpt X g
 lo:X.wc.heap.size<=cb
theorem J.cmp(h:J X w g m R){cb:Nat}(ho:CmpO X g cb w){w':World}(hk:Kp [cb] w w'):J X w' g m R:=h.kpo hk (fun k hk e=>ho.off (by rw[<-List.mem_singleton.1 e];exact hk)) (fun y hy=>by rw[List.mem_singleton.1 hy];exact ho.lo)
theorem zku(h:J X w g m R)(cb p:Nat)(hcb:CmpB X cb p w)(ho:CmpO X g cb w)(a b c d:Cl)(hab:zI R a b)(hcd:zI R c d)(hbp:b.p=true)(hdp:d.p=true)(u v:Th)(hu:m.D b.n=some u)(hv:m.D d.n=some v)(hlu:u.fs.length<=65535)(hnu:∀ c∈u.fs,c.p=false)(hnv:∀ c∈v.fs,c.p=false):Calls Tryz.prog 125 #[.pointer (some ⟨cb,0,none⟩),.int .i64 a.n,.int .i64 c.n,.func (.func 126) #[] #[]] w fun e w'=>e=.returned (.bool (decide (u.tag=v.tag) && decide (u.fs=v.fs)))/\Kp [] w w':=by
 obtain⟨ap,an⟩:=a
 obtain⟨cp,cn⟩:=c
 obtain⟨_,t,u2,ht,hu2,hth⟩:=h.thing hab (hab.1.trans hbp)
 obtain⟨_,s,v2,hs,hv2,hsh⟩:=h.thing hcd (hcd.1.trans hdp)
 rw[hu] at hu2
 cases hu2
 rw[hv] at hv2
 cases hv2
 simp only at ht hs ⊢
 have HG:Hid (∀ wr,Kp [cb] w wr->∀ wx,Kp [] wr wx->(Calls Tryz.prog 78 #[.pointer (some ⟨X.hp,0,none⟩),.int .i64 an] wx fun e w'=>e=.returned (.int .i64 u.tag)/\Kp [] wr w')/\(Calls Tryz.prog 78 #[.pointer (some ⟨X.hp,0,none⟩),.int .i64 cn] wx fun e w'=>e=.returned (.int .i64 v.tag)/\Kp [] wr w')/\(Calls Tryz.prog 76 #[.pointer (some ⟨X.hp,0,none⟩),.int .i64 an] wx fun e w'=>e=.returned (.int .i64 (u.fs.length:Nat))/\Kp [] wr w')/\(Calls Tryz.prog 76 #[.pointer (some ⟨X.hp,0,none⟩),.int .i64 cn] wx fun e w'=>e=.returned (.int .i64 (v.fs.length:Nat))/\Kp [] wr w')/\(∀ i (hi:i < u.fs.length),∃ x:Cl,zI R x (u.fs[i]'hi)/\Calls Tryz.prog 82 #[.pointer (some ⟨X.hp,0,none⟩),.int .i64 an,.int .i64 (i:Nat)] wx fun e w'=>e=.returned (.agg #[.bool x.p,.int .i64 x.n])/\Kp [] wr w')/\(∀ i (hi:i < v.fs.length),∃ x:Cl,zI R x (v.fs[i]'hi)/\Calls Tryz.prog 82 #[.pointer (some ⟨X.hp,0,none⟩),.int .i64 cn,.int .i64 (i:Nat)] wx fun e w'=>e=.returned (.agg #[.bool x.p,.int .i64 x.n])/\Kp [] wr w')):=fun wr hr wx hx=>by
  have hJ:=h.cmp ho hr
  obtain⟨_,p1,p2,p3⟩:=hJ.pget wx hx an t ht
  obtain⟨_,q1,q2,q3⟩:=hJ.pget wx hx cn s hs
  have l1:=hth.fs.len
  have l2:=hsh.fs.len
  refine⟨by rw[hth.tag] at p1;exact p1,by rw[hsh.tag] at q1;exact q1,by rw[l1] at p2;exact p2,by rw[l2] at q2;exact q2,fun i hi=>⟨t.fs[i]'(by omega),hth.fs.at_ i (by omega) hi,p3 i (by omega)⟩,fun i hi=>⟨s.fs[i]'(by omega),hsh.fs.at_ i (by omega) hi,q3 i (by omega)⟩⟩
 have HF:Hid (_/\_/\w.cell? ⟨X.mm,2,none⟩=some (.pointer (some ⟨X.hp,0,none⟩))/\_):=⟨hcb.at.1,hcb.at.2.2.2,h.box.heap.1,h.box.lt⟩
 have Hcb:=zh hcb
 have H1:=zh h.one
 have HJ:Hid (_/\_):=⟨h,ho⟩
 have Hlu:=zh hlu
 have Hnum:Hid (_/\_):=⟨hnu,hnv⟩
 clear hnu hnv
 clear hlu
 clear ht hs hth hsh hu hv h hcb ho hbp hdp hab hcd
 generalize hP:(fun(e:Ending) (w':World)=>e=.returned (.bool (decide (u.tag=v.tag) && decide (u.fs=v.fs)))/\Kp [] w w')=P
 have HP:=zh hP
 clear hP
 obtain⟨f0,f1,f2,f3⟩:=HF.o
 have hg:=HG.o w (Kp.refl _ _)
 have HT1:Hid (∀ wx,Kp [] w wx->_):=fun wx hx=>(hg wx hx).1
 have HT2:Hid (∀ wx,Kp [] w wx->_):=fun wx hx=>(hg wx hx).2.1
 have HL1:Hid (∀ wx,Kp [] w wx->_):=fun wx hx=>(hg wx hx).2.2.1
 have HL2:Hid (∀ wx,Kp [] w wx->_):=fun wx hx=>(hg wx hx).2.2.2.1
 clear hg
 go_enter Tryz.func125,Tryz.ntmps125
 go_wp2_with fail
 refine cM (HT1.o _ kr) ?_
 rintro e w1 ⟨rfl,hw1⟩
 clear f0 f1 f2 f3
 go_wp2_with fail
 refine cM (HT2.o _ hw1) ?_
 rintro e w2 ⟨rfl,hw2⟩
 clear hw1
 by_cases c1:u.tag=v.tag
 ·have c1':(u.tag != v.tag)=false:=by simp[c1]
  have Hc1:=zh c1
  clear c1
  go_wp2_with fail
  refine cM (HL1.o _ hw2) ?_
  rintro e w3 ⟨rfl,hw3⟩
  clear hw2
  go_wp2_with fail
  refine cM (HL2.o _ hw3) ?_
  rintro e w4 ⟨rfl,hw4⟩
  clear hw3
  by_cases c2:u.fs.length=v.fs.length
  ·have c2':((u.fs.length:Int) != (v.fs.length:Int))=false:=by simp[c2]
   have Hc2:=zh c2
   clear c2
   go_wp2_with fail
   refine cM (HL1.o _ hw4) ?_
   rintro e w5 ⟨rfl,hw5⟩
   have Hw5:=zh hw5
   clear hw4 hw5 HT1 HT2 HL1 HL2 c1' c2'
   go_wp2_with fail
   go_loopw [37] (fun iv wr=>∃ (i:Nat),i<=u.fs.length/\iv=.int .i64 (i:Nat)/\Hid (Kp [] w wr/\u.fs.take i=v.fs.take i)) (fun i _=>u.fs.length - (intOf i).toNat)
   case atStart=>exact⟨0,Nat.zero_le _,rfl,⟨Hw5.o,by simp⟩⟩
   case round=>
    obtain⟨i,hi,rfl,HL⟩:=hrel
    by_cases hin:i < u.fs.length
    ·have h1:=Int.ofNat_lt.2 hin
     have h2:=zge i (by have:=Hlu.o;omega)
     have hin2:i < v.fs.length:=by have:=Hc2.o;omega
     have hkr:Kp [cb] w wr:=HL.o.1.mono (by simp)
     obtain⟨x,hx,hcx⟩:=(HG.o wr hkr wr (Kp.refl _ _)).2.2.2.2.1 i hin
     have HX:=zh hcx
     have HY:Hid (∀ wx,Kp [] wr wx->∃ y:Cl,zI R y (v.fs[i]'hin2)/\_):=fun wx hwx=>(HG.o wr hkr wx hwx).2.2.2.2.2 i hin2
     have Hx:=zh hx
     clear hcx hx
     obtain⟨xp,xn⟩:=x
     simp only at HX
     go_wp2_with fail
     refine cM HX.o ?_
     rintro e w6 ⟨rfl,hw6⟩
     obtain⟨y,hy,hcy⟩:=HY.o w6 hw6
     have HY2:=zh hcy
     have Hy:=zh hy
     clear hcy hy HY HX
     obtain⟨yp,yn⟩:=y
     simp only at HY2
     go_wp2_with fail
     refine cM HY2.o ?_
     rintro e w7 ⟨rfl,hw7⟩
     clear HY2 hw6
     have HC:Hid _:=ze4 w7 xp xn yp yn
     have hceq:(xp == yp && xn == yn)=decide (u.fs[i]'hin=v.fs[i]'hin2):=zg9 H1.o Hx.o Hy.o
     rw[hceq] at HC
     have Htk:Hid (_/\_):=⟨HL.o.2,HL.o.1.trans hw7⟩
     clear hceq hkr HL Hx Hy hw7
     by_cases he:u.fs[i]'hin=v.fs[i]'hin2
     ·rw[decide_eq_true he] at HC
      go_wp2_with fail
      refine cM HC.o ?_
      rintro e w8 ⟨rfl,hw8⟩
      have HQ:Hid (Kp [] w w8/\u.fs.take (i+1)=v.fs.take (i+1)):=⟨Htk.o.2.trans hw8,by rw[ze1 (gE hin),ze1 (gE hin2),Htk.o.1,he]⟩
      have Hin:=zh hin
      clear hw8 Htk HC h1 he hin hin2 hi
      go_wp2_with fail
      go_roundw
      case rel=>exact⟨i+1,Hin.o,by first | rfl | (congr 1;omega) | go_num,HQ⟩
      case measure=>have:=Hin.o;rw[h2];clear h2;simp[intOf];omega
     ·rw[decide_eq_false he] at HC
      go_wp2_with fail
      refine cM HC.o ?_
      rintro e w8 ⟨rfl,hw8⟩
      have Q:Hid (P (.returned (.bool false)) w8):=by
       unfold Hid
       rw[<-HP.o]
       simp only
       refine⟨?_,Htk.o.2.trans hw8⟩
       rw[decide_eq_false (show ¬ u.fs=v.fs from fun e=>he (by
        have e3:u.fs[i]? = v.fs[i]?:=by rw[e]
        rw[gE hin,gE hin2] at e3
        exact Option.some.inj e3)),Bool.and_false]
      clear hw8 Htk HC h1 h2 he hin hin2 hi HP HG HF Hcb H1 HJ Hc1 Hc2 Hw5 Hlu
      go_wp2_with fail
      exact Q.o
    ·have e:=zdf hi hin
     have h1:¬ ((i:Int) < (u.fs.length:Int)):=by omega
     have Q:Hid (P (.returned (.bool true)) wr):=by
      unfold Hid
      rw[<-HP.o]
      simp only
      refine⟨?_,HL.o.1⟩
      have h3:=HL.o.2
      rw[List.take_of_length_le (by omega),List.take_of_length_le (by have:=Hc2.o;omega)] at h3
      rw[decide_eq_true Hc1.o,decide_eq_true h3]
      rfl
     clear HP HL HG HF Hcb H1 HJ Hc1 Hc2 Hw5 e hin hi Hlu
     go_wp2_with fail
     exact Q.o
  ·have c2':((u.fs.length:Int) != (v.fs.length:Int))=true:=by simp;omega
   have Q:Hid (P (.returned (.bool false)) w4):=by
    unfold Hid
    rw[<-HP.o]
    simp only
    exact⟨by rw[decide_eq_false (show ¬ u.fs=v.fs from fun e=>c2 (by rw[e])),Bool.and_false],hw4⟩
   clear HP hw4 HT1 HT2 HL1 HL2 HG HF Hcb H1 HJ Hc1 c2
   go_wp2_with fail
   exact Q.o
 ·have c1':(u.tag != v.tag)=true:=by simpa using c1
  have Q:Hid (P (.returned (.bool false)) w2):=by
   unfold Hid
   rw[<-HP.o]
   simp only
   exact⟨by rw[decide_eq_false c1,Bool.false_and],hw2⟩
  clear HP hw2 HT1 HT2 HL1 HL2 HG HF Hcb H1 HJ c1
  go_wp2_with fail
  exact Q.o
theorem zgg(h:J X w g m R)(cb p:Nat)(hcb:CmpB X cb p w)(ho:CmpO X g cb w)(a b c d:Cl)(hab:zI R a b)(hcd:zI R c d)(hbp:b.p=true)(hdp:d.p=true)(u v:Th)(hu:m.D b.n=some u)(hv:m.D d.n=some v)(hlu:u.fs.length<=65535)(f:Nat)(IH:∀ (p:Nat) (wx:World),Kp [cb] w wx->CmpB X cb p wx->p<=1000->1001<=p+f->∀ (a b c d:Cl),zI R a b->zI R c d->Calls Tryz.prog 119 #[.pointer (some ⟨cb,0,none⟩),.agg #[.bool a.p,.int .i64 a.n],.agg #[.bool c.p,.int .i64 c.n]] wx fun e w'=>e=.returned (.bool (zL m.D f p b d).1)/\CmpB X cb (zL m.D f p b d).2 w'/\((zL m.D f p b d).1=true->(zL m.D f p b d).2<=1000)/\(zL m.D f p b d).2<=1001/\p<=(zL m.D f p b d).2/\Kp [cb] w w')(hp:p<=1000)(hpf:1001<=p+f):Calls Tryz.prog 125 #[.pointer (some ⟨cb,0,none⟩),.int .i64 a.n,.int .i64 c.n,.func (.func 119) #[.pointer (some ⟨cb,0,none⟩)] #[]] w fun e w'=>e=.returned (.bool (if u.tag=v.tag/\u.fs.length=v.fs.length then rowA (zL m.D f) p u.fs v.fs else(false,p)).1)/\CmpB X cb (if u.tag=v.tag/\u.fs.length=v.fs.length then rowA (zL m.D f) p u.fs v.fs else(false,p)).2 w'/\((if u.tag=v.tag/\u.fs.length=v.fs.length then rowA (zL m.D f) p u.fs v.fs else(false,p)).1=true->(if u.tag=v.tag/\u.fs.length=v.fs.length then rowA (zL m.D f) p u.fs v.fs else(false,p)).2<=1000)/\(if u.tag=v.tag/\u.fs.length=v.fs.length then rowA (zL m.D f) p u.fs v.fs else(false,p)).2<=1001/\p<=(if u.tag=v.tag/\u.fs.length=v.fs.length then rowA (zL m.D f) p u.fs v.fs else(false,p)).2/\Kp [cb] w w':=by
 obtain⟨ap,an⟩:=a
 obtain⟨cp,cn⟩:=c
 obtain⟨_,t,u2,ht,hu2,hth⟩:=h.thing hab (hab.1.trans hbp)
 obtain⟨_,s,v2,hs,hv2,hsh⟩:=h.thing hcd (hcd.1.trans hdp)
 rw[hu] at hu2
 cases hu2
 rw[hv] at hv2
 cases hv2
 simp only at ht hs ⊢
 have HG:Hid (∀ wr,Kp [cb] w wr->∀ wx,Kp [] wr wx->(Calls Tryz.prog 78 #[.pointer (some ⟨X.hp,0,none⟩),.int .i64 an] wx fun e w'=>e=.returned (.int .i64 u.tag)/\Kp [] wr w')/\(Calls Tryz.prog 78 #[.pointer (some ⟨X.hp,0,none⟩),.int .i64 cn] wx fun e w'=>e=.returned (.int .i64 v.tag)/\Kp [] wr w')/\(Calls Tryz.prog 76 #[.pointer (some ⟨X.hp,0,none⟩),.int .i64 an] wx fun e w'=>e=.returned (.int .i64 (u.fs.length:Nat))/\Kp [] wr w')/\(Calls Tryz.prog 76 #[.pointer (some ⟨X.hp,0,none⟩),.int .i64 cn] wx fun e w'=>e=.returned (.int .i64 (v.fs.length:Nat))/\Kp [] wr w')/\(∀ i (hi:i < u.fs.length),∃ x:Cl,zI R x (u.fs[i]'hi)/\Calls Tryz.prog 82 #[.pointer (some ⟨X.hp,0,none⟩),.int .i64 an,.int .i64 (i:Nat)] wx fun e w'=>e=.returned (.agg #[.bool x.p,.int .i64 x.n])/\Kp [] wr w')/\(∀ i (hi:i < v.fs.length),∃ x:Cl,zI R x (v.fs[i]'hi)/\Calls Tryz.prog 82 #[.pointer (some ⟨X.hp,0,none⟩),.int .i64 cn,.int .i64 (i:Nat)] wx fun e w'=>e=.returned (.agg #[.bool x.p,.int .i64 x.n])/\Kp [] wr w')):=fun wr hr wx hx=>by
  have hJ:=h.cmp ho hr
  obtain⟨_,p1,p2,p3⟩:=hJ.pget wx hx an t ht
  obtain⟨_,q1,q2,q3⟩:=hJ.pget wx hx cn s hs
  have l1:=hth.fs.len
  have l2:=hsh.fs.len
  refine⟨by rw[hth.tag] at p1;exact p1,by rw[hsh.tag] at q1;exact q1,by rw[l1] at p2;exact p2,by rw[l2] at q2;exact q2,fun i hi=>⟨t.fs[i]'(by omega),hth.fs.at_ i (by omega) hi,p3 i (by omega)⟩,fun i hi=>⟨s.fs[i]'(by omega),hsh.fs.at_ i (by omega) hi,q3 i (by omega)⟩⟩
 have HF:Hid (_/\_/\w.cell? ⟨X.mm,2,none⟩=some (.pointer (some ⟨X.hp,0,none⟩))/\_):=⟨hcb.at.1,hcb.at.2.2.2,h.box.heap.1,h.box.lt⟩
 have Hcb:=zh hcb
 have H1:=zh h.one
 have HJ:Hid (_/\_):=⟨h,ho⟩
 have Hlu:=zh hlu
 have HIH:=zh IH
 have Hp:Hid (_/\_):=⟨hp,hpf⟩
 clear IH hp hpf
 clear hlu
 clear ht hs hth hsh hu hv h hcb ho hbp hdp hab hcd
 generalize hP:(fun(e:Ending) (w':World)=>e=.returned (.bool (if u.tag=v.tag/\u.fs.length=v.fs.length then rowA (zL m.D f) p u.fs v.fs else(false,p)).1)/\CmpB X cb (if u.tag=v.tag/\u.fs.length=v.fs.length then rowA (zL m.D f) p u.fs v.fs else(false,p)).2 w'/\((if u.tag=v.tag/\u.fs.length=v.fs.length then rowA (zL m.D f) p u.fs v.fs else(false,p)).1=true->(if u.tag=v.tag/\u.fs.length=v.fs.length then rowA (zL m.D f) p u.fs v.fs else(false,p)).2<=1000)/\(if u.tag=v.tag/\u.fs.length=v.fs.length then rowA (zL m.D f) p u.fs v.fs else(false,p)).2<=1001/\p<=(if u.tag=v.tag/\u.fs.length=v.fs.length then rowA (zL m.D f) p u.fs v.fs else(false,p)).2/\Kp [cb] w w')=P
 have HP:=zh hP
 clear hP
 obtain⟨f0,f1,f2,f3⟩:=HF.o
 have hg:=HG.o w (Kp.refl _ _)
 have HT1:Hid (∀ wx,Kp [] w wx->_):=fun wx hx=>(hg wx hx).1
 have HT2:Hid (∀ wx,Kp [] w wx->_):=fun wx hx=>(hg wx hx).2.1
 have HL1:Hid (∀ wx,Kp [] w wx->_):=fun wx hx=>(hg wx hx).2.2.1
 have HL2:Hid (∀ wx,Kp [] w wx->_):=fun wx hx=>(hg wx hx).2.2.2.1
 clear hg
 go_enter Tryz.func125,Tryz.ntmps125
 go_wp2_with fail
 refine cM (HT1.o _ kr) ?_
 rintro e w1 ⟨rfl,hw1⟩
 clear f0 f1 f2 f3
 go_wp2_with fail
 refine cM (HT2.o _ hw1) ?_
 rintro e w2 ⟨rfl,hw2⟩
 clear hw1
 by_cases c1:u.tag=v.tag
 ·have c1':(u.tag != v.tag)=false:=by simp[c1]
  have Hc1:=zh c1
  clear c1
  go_wp2_with fail
  refine cM (HL1.o _ hw2) ?_
  rintro e w3 ⟨rfl,hw3⟩
  clear hw2
  go_wp2_with fail
  refine cM (HL2.o _ hw3) ?_
  rintro e w4 ⟨rfl,hw4⟩
  clear hw3
  by_cases c2:u.fs.length=v.fs.length
  ·have c2':((u.fs.length:Int) != (v.fs.length:Int))=false:=by simp[c2]
   have Hc2:=zh c2
   clear c2
   go_wp2_with fail
   refine cM (HL1.o _ hw4) ?_
   rintro e w5 ⟨rfl,hw5⟩
   have Hw5:=zh hw5
   clear hw4 hw5 HT1 HT2 HL1 HL2 c1' c2'
   go_wp2_with fail
   go_loopw [37] (fun iv wr=>∃ (i:Nat),i<=u.fs.length/\iv=.int .i64 (i:Nat)/\Hid (∃ q,Kp [cb] w wr/\CmpB X cb q wr/\q<=1000/\p<=q/\rowA (zL m.D f) p u.fs v.fs=rowA (zL m.D f) q (u.fs.drop i) (v.fs.drop i))) (fun i _=>u.fs.length - (intOf i).toNat)
   case atStart=>exact⟨0,Nat.zero_le _,rfl,⟨p,Hw5.o.mono (by simp),Hcb.o.kp Hw5.o,Hp.o.1,Nat.le_refl _,by rw[List.drop_zero,List.drop_zero]⟩⟩
   case round=>
    obtain⟨i,hi,rfl,HL⟩:=hrel
    by_cases hin:i < u.fs.length
    ·have h1:=Int.ofNat_lt.2 hin
     have h2:=zge i (by have:=Hlu.o;omega)
     have hin2:i < v.fs.length:=by have:=Hc2.o;omega
     obtain⟨q,hkr,hcq,hq1,hq2,hrow⟩:=HL.o
     obtain⟨x,hx,hcx⟩:=(HG.o wr hkr wr (Kp.refl _ _)).2.2.2.2.1 i hin
     have HX:=zh hcx
     have HY:Hid (∀ wx,Kp [] wr wx->∃ y:Cl,zI R y (v.fs[i]'hin2)/\_):=fun wx hwx=>(HG.o wr hkr wx hwx).2.2.2.2.2 i hin2
     have Hx:=zh hx
     clear hcx hx
     obtain⟨xp,xn⟩:=x
     simp only at HX
     go_wp2_with fail
     refine cM HX.o ?_
     rintro e w6 ⟨rfl,hw6⟩
     obtain⟨y,hy,hcy⟩:=HY.o w6 hw6
     have HY2:=zh hcy
     have Hy:=zh hy
     clear hcy hy HY HX
     obtain⟨yp,yn⟩:=y
     simp only at HY2
     go_wp2_with fail
     refine cM HY2.o ?_
     rintro e w7 ⟨rfl,hw7⟩
     clear HY2 hw6
     have hcq7:=hcq.kp hw7
     have hk7:=hkr.trans (hw7.mono (by simp))
     have HC:Hid _:=HIH.o q w7 hk7 hcq7 hq1 (by have:=Hp.o;omega) ⟨xp,xn⟩ (u.fs[i]'hin) ⟨yp,yn⟩ (v.fs[i]'hin2) Hx.o Hy.o
     have hr2:rowA (zL m.D f) q (u.fs.drop i) (v.fs.drop i)=(if(zL m.D f q (u.fs[i]'hin) (v.fs[i]'hin2)).1 then rowA (zL m.D f) (zL m.D f q (u.fs[i]'hin) (v.fs[i]'hin2)).2 (u.fs.drop (i+1)) (v.fs.drop (i+1)) else(false,(zL m.D f q (u.fs[i]'hin) (v.fs[i]'hin2)).2)):=by
      rw[List.drop_eq_getElem_cons hin,List.drop_eq_getElem_cons hin2,rowA]
     rw[hr2] at hrow
     clear hr2
     generalize hres:zL m.D f q (u.fs[i]'hin) (v.fs[i]'hin2)=r at *
     obtain⟨rb,rq⟩:=r
     simp only at hrow
     have Hrow:Hid (_/\_):=⟨hrow,hq2⟩
     clear hrow hres hcq hcq7 hk7 hkr hq1 hq2 HL hw7 hin2 Hx Hy
     cases rb with
     | true=>
      go_wp2_with fail
      refine cM HC.o ?_
      rintro e w8 ⟨rfl,hcr,hr0,hr1,hr3,hk8⟩
      have HQ:Hid (∃ q,Kp [cb] w w8/\CmpB X cb q w8/\q<=1000/\p<=q/\rowA (zL m.D f) p u.fs v.fs=rowA (zL m.D f) q (u.fs.drop (i+1)) (v.fs.drop (i+1))):=⟨rq,hk8,hcr,hr0 trivial,by have:=Hrow.o.2;omega,by rw[Hrow.o.1];simp⟩
      have Hin:=zh hin
      clear hcr hr0 hr1 hr3 hk8 Hrow HC h1 hin hi
      go_wp2_with fail
      go_roundw
      case rel=>exact⟨i+1,Hin.o,by first | rfl | (congr 1;omega) | go_num,HQ⟩
      case measure=>have:=Hin.o;rw[h2];clear h2;simp[intOf];omega
     | false=>
      go_wp2_with fail
      refine cM HC.o ?_
      rintro e w8 ⟨rfl,hcr,hr0,hr1,hr3,hk8⟩
      have Q:Hid (P (.returned (.bool false)) w8):=by
       unfold Hid
       rw[<-HP.o]
       simp only[if_pos (show u.tag=v.tag/\u.fs.length=v.fs.length from⟨Hc1.o,Hc2.o⟩)]
       rw[Hrow.o.1]
       simp only[Bool.false_eq_true,if_false]
       exact⟨trivial,hcr,(fun e=>by cases e),hr1,by have:=Hrow.o.2;show p<=rq;omega,hk8⟩
      clear hcr hr0 hr1 hr3 hk8 Hrow HC h1 h2 hin hi HP HG HF Hcb H1 HJ Hc1 Hc2 Hw5 Hlu
      go_wp2_with fail
      exact Q.o
    ·have e:=zdf hi hin
     have h1:¬ ((i:Int) < (u.fs.length:Int)):=by omega
     have Q:Hid (P (.returned (.bool true)) wr):=by
      unfold Hid
      rw[<-HP.o]
      obtain⟨q,hkr,hcq,hq1,hq2,hrow⟩:=HL.o
      simp only[if_pos (show u.tag=v.tag/\u.fs.length=v.fs.length from⟨Hc1.o,Hc2.o⟩)]
      rw[List.drop_of_length_le (by omega),List.drop_of_length_le (by have:=Hc2.o;omega)] at hrow
      rw[hrow]
      exact⟨rfl,hcq,fun _=>hq1,Nat.le_trans hq1 (by decide),hq2,hkr⟩
     clear HP HL HG HF Hcb H1 HJ Hc1 Hc2 Hw5 e hin hi Hlu
     go_wp2_with fail
     exact Q.o
  ·have c2':((u.fs.length:Int) != (v.fs.length:Int))=true:=by simp;omega
   have Q:Hid (P (.returned (.bool false)) w4):=by
    unfold Hid
    rw[<-HP.o]
    simp only[if_neg (show ¬ (u.tag=v.tag/\u.fs.length=v.fs.length) from fun e=>c2 e.2)]
    exact⟨trivial,Hcb.o.kp hw4,(fun e=>absurd e Bool.false_ne_true),Nat.le_trans Hp.o.1 (by decide),Nat.le_refl _,hw4.mono (by simp)⟩
   clear HP hw4 HT1 HT2 HL1 HL2 HG HF Hcb H1 HJ Hc1 c2
   go_wp2_with fail
   exact Q.o
 ·have c1':(u.tag != v.tag)=true:=by simpa using c1
  have Q:Hid (P (.returned (.bool false)) w2):=by
   unfold Hid
   rw[<-HP.o]
   simp only[if_neg (show ¬ (u.tag=v.tag/\u.fs.length=v.fs.length) from fun e=>c1 e.1)]
   exact⟨trivial,Hcb.o.kp hw2,(fun e=>absurd e Bool.false_ne_true),Nat.le_trans Hp.o.1 (by decide),Nat.le_refl _,hw2.mono (by simp)⟩
  clear HP hw2 HT1 HT2 HL1 HL2 HG HF Hcb H1 HJ c1
  go_wp2_with fail
  exact Q.o
end
end Go.Proofs.YtkcmachfagcnaaaGreatDoor
