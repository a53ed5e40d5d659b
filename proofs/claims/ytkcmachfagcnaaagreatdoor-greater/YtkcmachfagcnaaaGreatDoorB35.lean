/- Part of Greater. -/
import Derived.Test.YtkcmachfagcnaaaGreatDoorB34
set_option maxHeartbeats 8000000
set_option maxRecDepth 100000
namespace Go.Proofs.YtkcmachfagcnaaaGreatDoor
open Go.RowKit Go.Deep Go.IntWalk
open C12 (Cd Fn In zT)
section
variable{X:Fx}{w:World}{g:Pg}{m:AM}{R:Int->Int->Prop}
theorem zs5(h:J X w g m R)(hd:okD X.cd m.D)(a b:Cl)(hab:zI R a b):Calls Tryz.prog 116 #[.pointer (some ⟨X.mm,0,none⟩),sg [97,116],.agg #[.bool a.p,.int .i64 a.n]] w fun e w'=>zP X w g m (atA m.D false b) e w':=by
 obtain⟨ap,an⟩:=a
 simp only
 obtain⟨w1,hw1,HB,HJ⟩:=pre2W h (.cells #[.bool ap,.int .i64 an] 67) (.cells #[.bool false,.int .i64 0] 67)
 have HT:Hid (∀ wx,Kp [] w1 wx->_):=zcz HJ.o ⟨ap,an⟩ b hab 2
 have HF:=hf2 HB.o HJ.o
 have Hd:=zh hd
 have Hab:=zh hab
 have HK0:Hid (Kp [] w1 w1.drew):=kr.drew
 clear hd h hab
 generalize hA:atA m.D false b=act
 have HA:=zh hA
 clear hA
 unfold atA at HA
 simp only[if_false,Bool.false_eq_true] at HA
 unfold sg
 go_enter Tryz.func116,Tryz.ntmps116
 go_upto_region 4 with fail
 rw[<-hw1.out]
 cases k1:isT m.D b 2 with
 | false=>
  rw[k1] at HA HT
  rw[Bool.false_and,Bool.false_and,if_neg Bool.false_ne_true] at HA
  refine rQ HK0.o (fun ops Hops=>?_)
  iterate 6
   (refine wQ ?_;apply xI;(·intro wx hwx;obtain⟨⟨f0,f1,f2⟩,f3,f4⟩:=HF.o wx hwx;go_simp <;> first | with_reducible rfl | with_reducible exact⟨rfl,rfl⟩ | exact HT.o _ hwx);try go_simp)
  iterate 10
   (refine wU ?_;go_simp)
  iterate 2
   (refine wQ ?_;apply xI;(·intro wx hwx;go_simp <;> first | rfl | exact⟨rfl,rfl⟩);try go_simp)
  iterate 8
   (refine wU ?_;go_simp)
  (refine wQ ?_;apply xI;(·intro wx hwx;go_simp <;> first | rfl | exact⟨rfl,rfl⟩);try go_simp)
  refine wpQuiet_nil ?_
  clear Hops ops
  intro w2 hw2
  obtain⟨⟨y0,y1,z0,z1,cl⟩,d0,d1,Q⟩:=endF2 HB.o HJ.o hw2 (.inl ⟨HA.o.symm,rfl⟩)
  clear k1 hw2
  go_wp2_with fail
  exact bR (by simp[results,Tryz.results116,go_sem,d0,d1]) Q.o
 | true=>
  obtain⟨hap,pf,hpf,hget⟩:=HJ.o.viewTs Hab.o k1
  simp only at hap
  subst hap
  rw[k1] at HA HT
  rw[Bool.true_and] at HA
  have HG:Hid (∀ i,i < 2->∀ wr,Kp [] w1 wr->∀ wx,Kp [] wr wx->Calls Tryz.prog 82 #[.pointer (some ⟨X.hp,0,none⟩),.int .i64 an,.int .i64 (i:Nat)] wx fun e w'=>e=.returned (.agg #[.bool (pf i).p,.int .i64 (pf i).n])/\Kp [] wr w'):=fun i hi wr hr wx hx=>hget wr hr wx hx i hi
  have HG0:Hid (∀ wx,Kp [] w1 wx->Calls Tryz.prog 82 #[.pointer (some ⟨X.hp,0,none⟩),.int .i64 an,.int .i64 0] wx fun e w'=>e=.returned (.agg #[.bool (pf 0).p,.int .i64 (pf 0).n])/\Kp [] w1 w'):=fun wx hx=>hget w1 (Kp.refl _ _) wx hx 0 (by omega)
  have HG1:Hid (∀ wx,Kp [] w1 wx->Calls Tryz.prog 82 #[.pointer (some ⟨X.hp,0,none⟩),.int .i64 an,.int .i64 1] wx fun e w'=>e=.returned (.agg #[.bool (pf 1).p,.int .i64 (pf 1).n])/\Kp [] w1 w'):=fun wx hx=>hget w1 (Kp.refl _ _) wx hx 1 (by omega)
  have HC:Hid (∀ wx,Kp [] w1 wx->_):=zc0 HJ.o (pf 0) (getA m.D b.n 0) (hpf 0 (by omega)).1 1
  have Hpf:=zh hpf
  clear hget hpf
  have hf0:=zc2 (pf 1).p (pf 1).n
  have hf1:=za9 (pf 1).p (pf 1).n
  have hf2:=za9 (pf 0).p (pf 0).n
  cases k2:isC m.D (getA m.D b.n 0) 1 with
  | false=>
   rw[k2] at HA HC
   rw[Bool.false_and,if_neg Bool.false_ne_true] at HA
   generalize pf 0=c0 at *
   obtain⟨c0p,c0n⟩:=c0
   simp only at HG0 HC
   refine rQ HK0.o (fun ops Hops=>?_)
   iterate 18
    (refine wQ ?_;apply xI;(·intro wx hwx;obtain⟨⟨f0,f1,f2⟩,f3,f4⟩:=HF.o wx hwx;go_simp <;> first | with_reducible rfl | with_reducible exact⟨rfl,rfl⟩ | with_reducible exact HT.o _ hwx | with_reducible exact HG0.o _ hwx | with_reducible exact HC.o _ hwx | exact HT.o _ hwx | exact HG0.o _ hwx | exact HC.o _ hwx);try go_simp)
   iterate 8
    (refine wU ?_;go_simp)
   (refine wQ ?_;apply xI;(·intro wx hwx;go_simp <;> first | rfl | exact⟨rfl,rfl⟩);try go_simp)
   refine wpQuiet_nil ?_
   clear Hops ops
   intro w2 hw2
   obtain⟨⟨y0,y1,z0,z1,cl⟩,d0,d1,Q⟩:=endF2 HB.o HJ.o hw2 (.inl ⟨HA.o.symm,rfl⟩)
   clear k1 k2 hw2 hf0 hf1 hf2
   go_wp2_with fail
   exact bR (by simp[results,Tryz.results116,go_sem,d0,d1]) Q.o
  | true=>
   rw[k2] at HA HC
   rw[Bool.true_and] at HA
   obtain⟨hq1,hq2,-⟩:=(Hpf.o 1 (by omega)).1
   obtain⟨r0,ua,hua,hka,hta⟩:=zcf k2
   obtain⟨r1,ua2,hua2,qf,hqf,hqg⟩:=HJ.o.view (Hpf.o 0 (by omega)).1 r0
   rw[hua] at hua2
   cases hua2
   have hR0:=(Hpf.o 0 (by omega)).1.2.2 r1
   have Hqf:=zh hqf
   have HLn:Hid _:=fun wx (hx:Kp [] w1 wx)=>(hqg wx hx).1
   have HQG:Hid _:=fun i (hi:i < ua.fs.length) wx (hx:Kp [] w1 wx)=>(hqg wx hx).2.2 i hi
   have HR0:Hid (_/\lenA m.D (getA m.D b.n 0).n=ua.fs.length):=⟨hR0,by unfold lenA;rw[hua];rfl⟩
   have Hq:Hid (_/\_):=⟨hq1,hq2⟩
   rw[show lenA m.D (getA m.D b.n 0).n=ua.fs.length from HR0.o.2] at HA
   have hal:ua.fs.length<=100:=by
    rcases(Hd.o _ _ hua).ce hka with e | e <;> omega
   clear hq1 hq2 r0 hua hka hta hqf hqg hR0
   generalize hc0:pf 0=c0 at *
   obtain⟨c0p,c0n⟩:=c0
   simp only at r1
   subst r1
   generalize hc1:pf 1=c1 at *
   obtain⟨c1p,c1n⟩:=c1
   simp only at HG0 HG1 HC HLn HQG HR0 Hq hf0 hf1 hf2
   clear hc0 hc1
   cases c1p with
   | true=>
    rw[<-Hq.o.1,Bool.not_true,if_neg Bool.false_ne_true] at HA
    refine rQ HK0.o (fun ops Hops=>?_)
    repeat
     (refine wQ ?_;apply xI;(·intro wx hwx;obtain⟨⟨f0,f1,f2⟩,f3,f4⟩:=HF.o wx hwx;go_simp <;> first | with_reducible rfl | with_reducible exact⟨rfl,rfl⟩ | with_reducible exact HT.o _ hwx | with_reducible exact HG0.o _ hwx | with_reducible exact HC.o _ hwx | with_reducible exact HG1.o _ hwx | exact HT.o _ hwx | exact HG0.o _ hwx | exact HC.o _ hwx | exact HG1.o _ hwx);try go_simp)
    refine wpQuiet_nil ?_
    clear Hops ops
    intro w2 hw2
    obtain⟨⟨y0,y1,z0,z1,cl⟩,d0,d1,Q⟩:=endF2 HB.o HJ.o hw2 (.inl ⟨HA.o.symm,rfl⟩)
    clear k1 k2 hw2 hf0 hf1 hf2
    go_wp2_with fail
    exact bR (by simp[results,Tryz.results116,go_sem,d0,d1]) Q.o
   | false=>
    rw[<-Hq.o.1,Bool.not_false,if_pos rfl,<-Hq.o.2 rfl] at HA
    refine rQ HK0.o (fun ops Hops=>?_)
    repeat
     (refine wQ ?_;apply xI;(·intro wx hwx;obtain⟨⟨f0,f1,f2⟩,f3,f4⟩:=HF.o wx hwx;go_simp <;> first | with_reducible rfl | with_reducible exact⟨rfl,rfl⟩ | with_reducible exact HT.o _ hwx | with_reducible exact HG0.o _ hwx | with_reducible exact HC.o _ hwx | with_reducible exact HG1.o _ hwx | exact HT.o _ hwx | exact HG0.o _ hwx | exact HC.o _ hwx | exact HG1.o _ hwx);try go_simp)
    refine wpQuiet_nil ?_
    clear Hops ops
    intro w2 hw2
    have HK2:=zh hw2.drew
    clear hw2
    go_upto_region 6 with fail
    refine rQ HK2.o (fun ops Hops=>?_)
    repeat
     (refine wQ ?_;apply xI;(·intro wx hwx;obtain⟨⟨f0,f1,f2⟩,f3,f4⟩:=HF.o wx hwx;go_simp <;> first | with_reducible rfl | with_reducible exact⟨rfl,rfl⟩ | with_reducible exact HG0.o _ hwx | with_reducible exact HG1.o _ hwx | exact HG0.o _ hwx | exact HG1.o _ hwx);try go_simp)
    refine wpQuiet_nil ?_
    clear Hops ops
    intro w3 hw3
    have Hw3:=zh hw3
    clear hw3 hf0 hf1 hf2
    by_cases c1:c1n < 0
    ·rw[if_pos (Or.inl c1)] at HA
     obtain⟨⟨y0,y1,z0,z1,cl⟩,d0,d1,Q⟩:=endF2 HB.o HJ.o Hw3.o (.inr ⟨HA.o.symm,by decide,by decide⟩)
     clear k1 k2
     go_wp2_with fail
     exact bR (by simp[results,Tryz.results116,go_sem,d0,d1]) Q.o
    ·obtain⟨I,rfl⟩:∃ I:Nat,c1n=(I:Int):=⟨c1n.toNat,by omega⟩
     rw[Int.toNat_natCast] at HA
     obtain⟨⟨f0,f1,f2⟩,f3,f4⟩:=HF.o w3 Hw3.o
     by_cases c2:ua.fs.length<=I
     ·rw[if_pos (Or.inr (by omega))] at HA
      have c2':=Int.ofNat_le.2 c2
      go_wp2_with fail
      refine cM (HLn.o _ Hw3.o) ?_
      rintro e w4 ⟨rfl,hw4⟩
      clear f0 f1 f2 f3 f4
      obtain⟨⟨y0,y1,z0,z1,cl⟩,d0,d1,Q⟩:=endF2 HB.o HJ.o hw4 (.inr ⟨HA.o.symm,by decide,by decide⟩)
      clear k1 k2 hw4
      go_wp2_with fail
      exact bR (by simp[results,Tryz.results116,go_sem,d0,d1]) Q.o
     ·rw[if_neg (by omega)] at HA
      have c2':¬ (ua.fs.length:Int)<=(I:Int):=fun e=>c2 (Int.ofNat_le.1 e)
      have HI:Hid (I < ua.fs.length):=by unfold Hid;omega
      go_wp2_with fail
      refine cM (HLn.o _ Hw3.o) ?_
      rintro e w4 ⟨rfl,hw4⟩
      have Hw4:=zh hw4
      clear f0 f1 f2 f3 f4 hw4
      obtain⟨⟨f0,f1,f2⟩,f3,f4⟩:=HF.o w4 Hw4.o
      go_wp2_with fail
      refine cM (HQG.o I HI.o _ Hw4.o) ?_
      rintro e w5 ⟨rfl,hw5⟩
      clear f0 f1 f2 f3 f4
      obtain⟨mv,a1,o1,a2,o2,hwc⟩:=HB.o
      have hbz:=zad a2 hw5
      obtain⟨y0,y1,z0,z1,cl⟩:=zaa hbz
      obtain⟨d0,d1,_⟩:=zaa (zae hbz (.bool (qf I).p) (.int .i64 (qf I).n))
      have Q:Hid (zP X w g m act (.returned (.tuple #[.agg #[.bool (qf I).p,.int .i64 (qf I).n],.int .i64 0])) ((w5.setCell ⟨w.heap.size+1,0,none⟩ (.bool (qf I).p)).setCell ⟨w.heap.size+1,1,none⟩ (.int .i64 (qf I).n))):=by
       unfold Hid
       rw[<-HA.o]
       exact za4 (Hqf.o I HI.o).1 (Hqf.o I HI.o).2 (fin2 (HJ.o.kp hw5) (mv.trans (Mv.zk hw5)) ⟨lL o2.1 hw5.size,o2.2⟩ (by omega) hwc _ _)
      clear hbz a1 o1 a2 o2 mv hwc hw5 k1 k2
      go_wp2_with fail
      exact bR (by simp[results,Tryz.results116,go_sem,d0,d1]) Q.o
theorem zqc(h:J X w g m R)(hd:okD X.cd m.D)(a b:Cl)(hab:zI R a b):Calls Tryz.prog 116 #[.pointer (some ⟨X.mm,0,none⟩),sg [112,117,116],.agg #[.bool a.p,.int .i64 a.n]] w fun e w'=>zP X w g m (atA m.D true b) e w':=by
 obtain⟨ap,an⟩:=a
 simp only
 obtain⟨w1,hw1,HB,HJ⟩:=pre2W h (.cells #[.bool ap,.int .i64 an] 67) (.cells #[.bool false,.int .i64 0] 67)
 have HT:Hid (∀ wx,Kp [] w1 wx->_):=zcz HJ.o ⟨ap,an⟩ b hab 3
 have HF:=hf2 HB.o HJ.o
 have Hd:=zh hd
 have Hab:=zh hab
 have HK0:Hid (Kp [] w1 w1.drew):=kr.drew
 clear hd h hab
 generalize hA:atA m.D true b=act
 have HA:=zh hA
 clear hA
 unfold atA at HA
 simp only[if_true] at HA
 unfold sg
 go_enter Tryz.func116,Tryz.ntmps116
 go_upto_region 4 with fail
 rw[<-hw1.out]
 cases k1:isT m.D b 3 with
 | false=>
  rw[k1] at HA HT
  rw[Bool.false_and,Bool.false_and,if_neg Bool.false_ne_true] at HA
  refine rQ HK0.o (fun ops Hops=>?_)
  iterate 6
   (refine wQ ?_;apply xI;(·intro wx hwx;obtain⟨⟨f0,f1,f2⟩,f3,f4⟩:=HF.o wx hwx;go_simp <;> first | with_reducible rfl | with_reducible exact⟨rfl,rfl⟩ | exact HT.o _ hwx);try go_simp)
  iterate 10
   (refine wU ?_;go_simp)
  iterate 2
   (refine wQ ?_;apply xI;(·intro wx hwx;go_simp <;> first | rfl | exact⟨rfl,rfl⟩);try go_simp)
  iterate 8
   (refine wU ?_;go_simp)
  (refine wQ ?_;apply xI;(·intro wx hwx;go_simp <;> first | rfl | exact⟨rfl,rfl⟩);try go_simp)
  refine wpQuiet_nil ?_
  clear Hops ops
  intro w2 hw2
  obtain⟨⟨y0,y1,z0,z1,cl⟩,d0,d1,Q⟩:=endF2 HB.o HJ.o hw2 (.inl ⟨HA.o.symm,rfl⟩)
  clear k1 hw2
  go_wp2_with fail
  exact bR (by simp[results,Tryz.results116,go_sem,d0,d1]) Q.o
 | true=>
  obtain⟨hap,pf,hpf,hget⟩:=HJ.o.viewTs Hab.o k1
  simp only at hap
  subst hap
  rw[k1] at HA HT
  rw[Bool.true_and] at HA
  have HG:Hid (∀ i,i < 3->∀ wr,Kp [] w1 wr->∀ wx,Kp [] wr wx->Calls Tryz.prog 82 #[.pointer (some ⟨X.hp,0,none⟩),.int .i64 an,.int .i64 (i:Nat)] wx fun e w'=>e=.returned (.agg #[.bool (pf i).p,.int .i64 (pf i).n])/\Kp [] wr w'):=fun i hi wr hr wx hx=>hget wr hr wx hx i hi
  have HG0:Hid (∀ wx,Kp [] w1 wx->Calls Tryz.prog 82 #[.pointer (some ⟨X.hp,0,none⟩),.int .i64 an,.int .i64 0] wx fun e w'=>e=.returned (.agg #[.bool (pf 0).p,.int .i64 (pf 0).n])/\Kp [] w1 w'):=fun wx hx=>hget w1 (Kp.refl _ _) wx hx 0 (by omega)
  have HG1:Hid (∀ wx,Kp [] w1 wx->Calls Tryz.prog 82 #[.pointer (some ⟨X.hp,0,none⟩),.int .i64 an,.int .i64 1] wx fun e w'=>e=.returned (.agg #[.bool (pf 1).p,.int .i64 (pf 1).n])/\Kp [] w1 w'):=fun wx hx=>hget w1 (Kp.refl _ _) wx hx 1 (by omega)
  have HC:Hid (∀ wx,Kp [] w1 wx->_):=zc0 HJ.o (pf 0) (getA m.D b.n 0) (hpf 0 (by omega)).1 1
  have Hpf:=zh hpf
  clear hget hpf
  have hf0:=zc2 (pf 1).p (pf 1).n
  have hf1:=za9 (pf 1).p (pf 1).n
  have hf2:=za9 (pf 0).p (pf 0).n
  cases k2:isC m.D (getA m.D b.n 0) 1 with
  | false=>
   rw[k2] at HA HC
   rw[Bool.false_and,if_neg Bool.false_ne_true] at HA
   generalize pf 0=c0 at *
   obtain⟨c0p,c0n⟩:=c0
   simp only at HG0 HC
   refine rQ HK0.o (fun ops Hops=>?_)
   iterate 18
    (refine wQ ?_;apply xI;(·intro wx hwx;obtain⟨⟨f0,f1,f2⟩,f3,f4⟩:=HF.o wx hwx;go_simp <;> first | with_reducible rfl | with_reducible exact⟨rfl,rfl⟩ | with_reducible exact HT.o _ hwx | with_reducible exact HG0.o _ hwx | with_reducible exact HC.o _ hwx | exact HT.o _ hwx | exact HG0.o _ hwx | exact HC.o _ hwx);try go_simp)
   iterate 8
    (refine wU ?_;go_simp)
   (refine wQ ?_;apply xI;(·intro wx hwx;go_simp <;> first | rfl | exact⟨rfl,rfl⟩);try go_simp)
   refine wpQuiet_nil ?_
   clear Hops ops
   intro w2 hw2
   obtain⟨⟨y0,y1,z0,z1,cl⟩,d0,d1,Q⟩:=endF2 HB.o HJ.o hw2 (.inl ⟨HA.o.symm,rfl⟩)
   clear k1 k2 hw2 hf0 hf1 hf2
   go_wp2_with fail
   exact bR (by simp[results,Tryz.results116,go_sem,d0,d1]) Q.o
  | true=>
   rw[k2] at HA HC
   rw[Bool.true_and] at HA
   obtain⟨hq1,hq2,-⟩:=(Hpf.o 1 (by omega)).1
   obtain⟨r0,ua,hua,hka,hta⟩:=zcf k2
   obtain⟨r1,ua2,hua2,qf,hqf,hqg⟩:=HJ.o.view (Hpf.o 0 (by omega)).1 r0
   rw[hua] at hua2
   cases hua2
   have hR0:=(Hpf.o 0 (by omega)).1.2.2 r1
   have Hqf:=zh hqf
   have HLn:Hid _:=fun wx (hx:Kp [] w1 wx)=>(hqg wx hx).1
   have HQG:Hid _:=fun i (hi:i < ua.fs.length) wx (hx:Kp [] w1 wx)=>(hqg wx hx).2.2 i hi
   have HR0:Hid (_/\lenA m.D (getA m.D b.n 0).n=ua.fs.length):=⟨hR0,by unfold lenA;rw[hua];rfl⟩
   have Hq:Hid (_/\_):=⟨hq1,hq2⟩
   rw[show lenA m.D (getA m.D b.n 0).n=ua.fs.length from HR0.o.2] at HA
   have hal:ua.fs.length<=100:=by
    rcases(Hd.o _ _ hua).ce hka with e | e <;> omega
   clear hq1 hq2 r0 hua hka hta hqf hqg hR0
   generalize hc0:pf 0=c0 at *
   obtain⟨c0p,c0n⟩:=c0
   simp only at r1
   subst r1
   generalize hc1:pf 1=c1 at *
   obtain⟨c1p,c1n⟩:=c1
   simp only at HG0 HG1 HC HLn HQG HR0 Hq hf0 hf1 hf2
   clear hc0 hc1
   cases c1p with
   | true=>
    rw[<-Hq.o.1,Bool.not_true,if_neg Bool.false_ne_true] at HA
    refine rQ HK0.o (fun ops Hops=>?_)
    repeat
     (refine wQ ?_;apply xI;(·intro wx hwx;obtain⟨⟨f0,f1,f2⟩,f3,f4⟩:=HF.o wx hwx;go_simp <;> first | with_reducible rfl | with_reducible exact⟨rfl,rfl⟩ | with_reducible exact HT.o _ hwx | with_reducible exact HG0.o _ hwx | with_reducible exact HC.o _ hwx | with_reducible exact HG1.o _ hwx | exact HT.o _ hwx | exact HG0.o _ hwx | exact HC.o _ hwx | exact HG1.o _ hwx);try go_simp)
    refine wpQuiet_nil ?_
    clear Hops ops
    intro w2 hw2
    obtain⟨⟨y0,y1,z0,z1,cl⟩,d0,d1,Q⟩:=endF2 HB.o HJ.o hw2 (.inl ⟨HA.o.symm,rfl⟩)
    clear k1 k2 hw2 hf0 hf1 hf2
    go_wp2_with fail
    exact bR (by simp[results,Tryz.results116,go_sem,d0,d1]) Q.o
   | false=>
    rw[<-Hq.o.1,Bool.not_false,if_pos rfl,<-Hq.o.2 rfl] at HA
    refine rQ HK0.o (fun ops Hops=>?_)
    repeat
     (refine wQ ?_;apply xI;(·intro wx hwx;obtain⟨⟨f0,f1,f2⟩,f3,f4⟩:=HF.o wx hwx;go_simp <;> first | with_reducible rfl | with_reducible exact⟨rfl,rfl⟩ | with_reducible exact HT.o _ hwx | with_reducible exact HG0.o _ hwx | with_reducible exact HC.o _ hwx | with_reducible exact HG1.o _ hwx | exact HT.o _ hwx | exact HG0.o _ hwx | exact HC.o _ hwx | exact HG1.o _ hwx);try go_simp)
    refine wpQuiet_nil ?_
    clear Hops ops
    intro w2 hw2
    have HK2:=zh hw2.drew
    clear hw2
    go_upto_region 6 with fail
    refine rQ HK2.o (fun ops Hops=>?_)
    repeat
     (refine wQ ?_;apply xI;(·intro wx hwx;obtain⟨⟨f0,f1,f2⟩,f3,f4⟩:=HF.o wx hwx;go_simp <;> first | with_reducible rfl | with_reducible exact⟨rfl,rfl⟩ | with_reducible exact HG0.o _ hwx | with_reducible exact HG1.o _ hwx | exact HG0.o _ hwx | exact HG1.o _ hwx);try go_simp)
    refine wpQuiet_nil ?_
    clear Hops ops
    intro w3 hw3
    have Hw3:=zh hw3
    clear hw3 hf0 hf1 hf2
    by_cases c1:c1n < 0
    ·rw[if_pos (Or.inl c1)] at HA
     obtain⟨⟨y0,y1,z0,z1,cl⟩,d0,d1,Q⟩:=endF2 HB.o HJ.o Hw3.o (.inr ⟨HA.o.symm,by decide,by decide⟩)
     clear k1 k2
     go_wp2_with fail
     exact bR (by simp[results,Tryz.results116,go_sem,d0,d1]) Q.o
    ·obtain⟨I,rfl⟩:∃ I:Nat,c1n=(I:Int):=⟨c1n.toNat,by omega⟩
     rw[Int.toNat_natCast] at HA
     obtain⟨⟨f0,f1,f2⟩,f3,f4⟩:=HF.o w3 Hw3.o
     by_cases c2:ua.fs.length<=I
     ·rw[if_pos (Or.inr (by omega))] at HA
      have c2':=Int.ofNat_le.2 c2
      go_wp2_with fail
      refine cM (HLn.o _ Hw3.o) ?_
      rintro e w4 ⟨rfl,hw4⟩
      clear f0 f1 f2 f3 f4
      obtain⟨⟨y0,y1,z0,z1,cl⟩,d0,d1,Q⟩:=endF2 HB.o HJ.o hw4 (.inr ⟨HA.o.symm,by decide,by decide⟩)
      clear k1 k2 hw4
      go_wp2_with fail
      exact bR (by simp[results,Tryz.results116,go_sem,d0,d1]) Q.o
     ·rw[if_neg (by omega)] at HA
      have c2':¬ (ua.fs.length:Int)<=(I:Int):=fun e=>c2 (Int.ofNat_le.1 e)
      have HI:Hid (I < ua.fs.length):=by unfold Hid;omega
      go_wp2_with fail
      refine cM (HLn.o _ Hw3.o) ?_
      rintro e w4 ⟨rfl,hw4⟩
      have Hw4:=zh hw4
      clear f0 f1 f2 f3 f4 hw4
      have hJ4:=HJ.o.kp Hw4.o
      have HG2:Hid (∀ wx,Kp [] w4 wx->Calls Tryz.prog 82 #[.pointer (some ⟨X.hp,0,none⟩),.int .i64 an,.int .i64 2] wx fun e w'=>e=.returned (.agg #[.bool (pf 2).p,.int .i64 (pf 2).n])/\Kp [] w4 w'):=fun wx hx=>HG.o 2 (by omega) w4 Hw4.o wx hx
      have HSet:Hid (∀ wx,Kp [] w4 wx->Calls Tryz.prog 52 #[.pointer (some ⟨X.hp,0,none⟩),.int .i64 c0n,.int .i64 I,.agg #[.bool (pf 2).p,.int .i64 (pf 2).n]] wx fun e w'=>e=.returned (.tuple #[])/\∃ ts',J X w' {g with ts:=ts'} (m.setD (getA m.D b.n 0).n I (getA m.D b.n 2)) R/\Mv X w4 g w' {g with ts:=ts'}):=fun wx hx=>by
       refine cM (zdp (hJ4.kp hx) HR0.o.1 I (by rw[HR0.o.2];exact HI.o) (pf 2) (getA m.D b.n 2) (Hpf.o 2 (by omega)).1 (Hpf.o 2 (by omega)).2) ?_
       rintro e w' ⟨rfl,ts2,hJ2,hm2⟩
       exact⟨rfl,ts2,hJ2,(Mv.zk hx).trans hm2⟩
      obtain⟨mv,a1,o1,a2,o2,hwc⟩:=HB.o
      have HS:Hid (_/\_/\Off X w4 g (w.heap.size+1)/\_):=⟨mv.trans (Mv.zk Hw4.o),zad a2 Hw4.o,⟨lL o2.1 Hw4.o.size,o2.2⟩,hwc⟩
      clear a1 o1 a2 o2 mv hwc hJ4 k1 k2
      generalize pf 2=c2c at *
      obtain⟨c2p,c2n⟩:=c2c
      simp only at HG2 HSet
      go_upto_region 11 with fail
      refine zan 13 (C:=fun wx=>Kp [] w4 wx) (by kernel_rfl) ?_
      refine qT 0 rfl ?_
      apply xI
      (intro wx hwx;go_simp <;> rfl)
      refine qT 1 rfl ?_
      apply xI
      (intro wx hwx;go_simp <;> rfl)
      refine qT 2 rfl ?_
      apply xI
      (intro wx hwx;go_simp <;> rfl)
      refine qT 3 rfl ?_
      apply xI
      (intro wx hwx;obtain⟨⟨f0,f1,f2⟩,f3,f4⟩:=HF.o wx (Hw4.o.trans hwx);go_simp <;> rfl)
      refine qT 4 rfl ?_
      apply xI
      (intro wx hwx;go_simp <;> rfl)
      refine qT 5 rfl ?_
      apply xI
      (intro wx hwx;go_simp <;> rfl)
      refine qT 6 rfl ?_
      apply xI
      (intro wx hwx;go_simp <;> rfl)
      refine qT 7 rfl ?_
      apply xI
      (intro wx hwx;go_simp <;> rfl)
      refine qT 8 rfl ?_
      apply xI
      (intro wx hwx;go_simp <;> rfl)
      refine qT 9 rfl ?_
      apply xI
      (intro wx hwx;obtain⟨⟨f0,f1,f2⟩,f3,f4⟩:=HF.o wx (Hw4.o.trans hwx);go_simp <;> rfl)
      refine qT 10 rfl ?_
      apply xI
      (intro wx hwx;go_simp <;> rfl)
      refine qT 11 rfl ?_
      apply xI
      (intro wx hwx;obtain⟨⟨f0,f1,f2⟩,f3,f4⟩:=HF.o wx (Hw4.o.trans hwx);go_simp <;> rfl)
      refine oL 12 (Kp.refl _ _).drew rfl (fun K hK=>?_)
      go_simp
      refine cM (HG2.o _ (Kp.refl _ _).drew) ?_
      rintro e8 w8 ⟨rfl,hw8⟩
      refine hK _ _ ?_
      clear hK K
      refine oL 13 hw8 rfl (fun K hK=>?_)
      go_simp
      refine cM (HSet.o _ hw8) ?_
      rintro e10 w10 ⟨rfl,ts2,hJ2,hm2⟩
      refine hK _ _ ?_
      clear hK K
      refine zas (by kernel_rfl) (by kernel_rfl) ?_
      go_simp
      have HN:Hid _:=za0 w10 0
      have HJ2:Hid (_/\_):=⟨hJ2,hm2⟩
      clear hJ2 hm2 hw8
      go_wp2_with fail
      refine cM HN.o ?_
      rintro e w11 ⟨rfl,hk11⟩
      obtain⟨hJ2,hm2⟩:=HJ2.o
      obtain⟨mv,a2,o2,hwc⟩:=HS.o
      obtain⟨o2r,k2r⟩:=o2.mv hm2
      have hbz:=zad (k2r.trans a2) hk11
      obtain⟨y0,y1,z0,z1,cl⟩:=zaa hbz
      obtain⟨d0,d1,_⟩:=zaa (zae hbz (.bool false) (.int .i64 0))
      have Q:Hid (zP X w g m act (.returned (.tuple #[.agg #[.bool false,.int .i64 0],.int .i64 0])) ((w11.setCell ⟨w.heap.size+1,0,none⟩ (.bool false)).setCell ⟨w.heap.size+1,1,none⟩ (.int .i64 0))):=by
       unfold Hid
       rw[<-HA.o]
       have h9:=fin2 (hJ2.kp hk11) (mv.trans (hm2.trans (Mv.zk hk11))) ⟨lL o2r.1 hk11.size,o2r.2⟩ (show w.heap.size<=w.heap.size+1 by omega) hwc (.bool false) (.int .i64 0)
       exact zP.val ⟨false,0⟩ (num 0) _ (valOf.set _ _ _) _ _ R h9.1 (zb5 _ _) zkh h9.2
      clear hbz hJ2 hm2 mv a2 o2 hwc o2r k2r hk11
      go_wp2_with fail
      exact bR (by simp[results,Tryz.results116,go_sem,d0,d1]) Q.o
end
end Go.Proofs.YtkcmachfagcnaaaGreatDoor
namespace Go.Proofs.YtkcmachfagcnaaaGreatDoor
open Go.RowKit Go.Deep Go.IntWalk
open C12 (zX zF Cd Fn In zT)
theorem zj3(a b:Cl):(a.p == b.p && a.n == b.n)=decide (a=b):=by
 obtain⟨p,n⟩:=a
 obtain⟨q,k⟩:=b
 by_cases h:p=q <;> by_cases h2:n=k <;> simp[h,h2]
theorem zrk{R:Int->Int->Prop}(ho:OneOne R){a b c d:Cl}(h1:zI R a b)(h2:zI R c d):decide (a=c)=decide (b=d):=by
 obtain⟨a1,a2,a3⟩:=h1
 obtain⟨c1,c2,c3⟩:=h2
 obtain⟨ap,an⟩:=a
 obtain⟨bp,bn⟩:=b
 obtain⟨cp,cn⟩:=c
 obtain⟨dp,dn⟩:=d
 simp only at *
 subst a1 c1
 rw[Bool.eq_iff_iff]
 simp only[decide_eq_true_eq,Cl.mk.injEq]
 constructor
 ·rintro⟨rfl,rfl⟩
  refine⟨rfl,?_⟩
  cases ap with
  | false=>rw[<-a2 rfl,<-c2 rfl]
  | true=>exact ho.l _ _ _ (a3 rfl) (c3 rfl)
 ·rintro⟨rfl,rfl⟩
  refine⟨rfl,?_⟩
  cases ap with
  | false=>rw[a2 rfl,c2 rfl]
  | true=>exact ho.r _ _ _ (a3 rfl) (c3 rfl)
section
variable{X:Fx}{w:World}{g:Pg}{m:AM}{R:Int->Int->Prop}
theorem J.curwf(h:J X w g m R)(hn:0 < m.s.cA.length):wfC g.s.cur.fn/\wfC g.s.cur.arg:=by
 have hcl:=h.clen
 have hi:g.s.cA.length - 1 < g.s.cA.length:=by omega
 obtain⟨h1,h2⟩:=zd6 g.s.cA _ hi
 have e:g.s.cur=g.s.cA[g.s.cA.length - 1]'hi:=by
  unfold St.cur
  rw[zcv (by omega)]
 have hm:=fun c (hc:c∈zY g.s.cA)=>h.wfr c (by unfold St.roots;exact List.mem_append_left _ hc)
 rw[e]
 exact⟨hm _ (List.mem_of_getElem? h1),hm _ (List.mem_of_getElem? h2)⟩
theorem ThingPost.act0{kind tag:Int}{e:Ending}{w':World}(h:ThingPost X w g m kind tag 0 e w'):zP X w g m (.make ⟨kind,tag,[]⟩) e w':=by
 cases h with
 | no w' g' R' hr hJ hm=>exact .fail 3 _ (.make _ hr) w' g' R' hJ hm
 | yes w' g' R' x hr hJ hx hw hm=>exact .val ⟨true,x⟩ ⟨true,m.next⟩ _ (.make _ hr) w' g' R' hJ ⟨rfl,(fun e=>by cases e),fun _=>hx⟩ hw hm
theorem zm8(h:J X w g m R)(a b:Int)(ha:-1000000000<=a/\a<=1000000000):Calls Tryz.prog 58 #[.pointer (some ⟨X.mm,0,none⟩),.agg #[.int .i64 0,.int .i64 a,.int .i64 b]] w fun e w'=>zP X w g m (.give (num a)) e w':=by
 obtain⟨w1,hw1,HB,HJ⟩:=pre2W h (.cells #[.int .i64 0,.int .i64 a,.int .i64 b] 44) (.cells #[.bool false,.int .i64 0] 67)
 generalize hA:(.give (num a):Act1)=act
 have HA:=zh hA
 clear hA
 have HN:Hid _:=za0 w1 a
 have Hwf:Hid (wfC ⟨false,a⟩):=zco (by omega)
 clear h ha
 go_enter Tryz.func58,Tryz.ntmps58
 go_wp2_with fail
 rw[<-hw1.out]
 refine cM HN.o ?_
 rintro e w2 ⟨rfl,hw2⟩
 obtain⟨mv,a1,o1,a2,o2,hwc⟩:=HB.o
 have hbz:=zad a2 hw2
 obtain⟨y0,y1,z0,z1,cl⟩:=zaa hbz
 obtain⟨d0,d1,_⟩:=zaa (zae hbz (.bool false) (.int .i64 a))
 have Q:Hid (zP X w g m act (.returned (.tuple #[.agg #[.bool false,.int .i64 a],.int .i64 0])) ((w2.setCell ⟨w.heap.size+1,0,none⟩ (.bool false)).setCell ⟨w.heap.size+1,1,none⟩ (.int .i64 a))):=by
  unfold Hid
  rw[<-HA.o]
  exact za4 (p:=⟨false,a⟩) (zb5 R a) Hwf.o (fin2 (HJ.o.kp hw2) (mv.trans (Mv.zk hw2)) ⟨lL o2.1 hw2.size,o2.2⟩ (by omega) hwc _ _)
 clear hbz mv a1 o1 a2 o2 hwc hw2
 go_wp2_with fail
 exact bR (by simp[results,Tryz.results58,go_sem,d0,d1]) Q.o
theorem zkk(h:J X w g m R)(a b:Int)(ha:0<=a/\a < 6):Calls Tryz.prog 58 #[.pointer (some ⟨X.mm,0,none⟩),.agg #[.int .i64 24,.int .i64 a,.int .i64 b]] w fun e w'=>zP X w g m (.give (num (-1 - a))) e w':=by
 obtain⟨w1,hw1,HB,HJ⟩:=pre2W h (.cells #[.int .i64 24,.int .i64 a,.int .i64 b] 44) (.cells #[.bool false,.int .i64 0] 67)
 generalize hA:(.give (num (-1 - a)):Act1)=act
 have HA:=zh hA
 clear hA
 have HN:Hid _:=za0 w1 (-1 - a)
 have Hwf:Hid (wfC ⟨false,-1 - a⟩):=zco (by omega)
 have hw:IntKind.i64.wrap (-1 - a)=-1 - a:=by
  rw[IntKind.wrap_i64]
  omega
 clear h ha
 go_enter Tryz.func58,Tryz.ntmps58
 go_wp2_with fail
 rw[<-hw1.out]
 refine cM HN.o ?_
 rintro e w2 ⟨rfl,hw2⟩
 generalize hna:-1 - a=na at *
 obtain⟨mv,a1,o1,a2,o2,hwc⟩:=HB.o
 have hbz:=zad a2 hw2
 obtain⟨y0,y1,z0,z1,cl⟩:=zaa hbz
 obtain⟨d0,d1,_⟩:=zaa (zae hbz (.bool false) (.int .i64 na))
 have Q:Hid (zP X w g m act (.returned (.tuple #[.agg #[.bool false,.int .i64 na],.int .i64 0])) ((w2.setCell ⟨w.heap.size+1,0,none⟩ (.bool false)).setCell ⟨w.heap.size+1,1,none⟩ (.int .i64 na))):=by
  unfold Hid
  rw[<-HA.o]
  exact za4 (p:=⟨false,na⟩) (zb5 R na) Hwf.o (fin2 (HJ.o.kp hw2) (mv.trans (Mv.zk hw2)) ⟨lL o2.1 hw2.size,o2.2⟩ (by omega) hwc _ _)
 clear hbz mv a1 o1 a2 o2 hwc hw2 hw hna
 go_wp2_with fail
 exact bR (by simp[results,Tryz.results58,go_sem,d0,d1]) Q.o
theorem zm3(h:J X w g m R)(hn:0 < m.s.cA.length)(i:Nat)(b:Int)(hi:i<=65535)(hsb:m.s.cur.sb<=1000000000):Calls Tryz.prog 58 #[.pointer (some ⟨X.mm,0,none⟩),.agg #[.int .i64 5,.int .i64 (i:Int),.int .i64 b]] w fun e w'=>zP X w g m (.give (m.s.slot i)) e w':=by
 obtain⟨w1,hw1,HB,HJ⟩:=pre2W h (.cells #[.int .i64 5,.int .i64 (i:Int),.int .i64 b] 44) (.cells #[.bool false,.int .i64 0] 67)
 generalize hA:(.give (m.s.slot i):Act1)=act
 have HA:=zh hA
 clear hA
 have HS:Hid _:=zl0 HJ.o hn i hi hsb w1 kr
 have HI:Hid _:=h.slotI hn i
 clear h hi hsb hn
 generalize g.s.slot i=c0 at *
 obtain⟨pp,pn⟩:=c0
 simp only at HS
 go_enter Tryz.func58,Tryz.ntmps58
 go_wp2_with fail
 rw[<-hw1.out]
 refine cM HS.o ?_
 rintro e w2 ⟨rfl,hw2⟩
 obtain⟨mv,a1,o1,a2,o2,hwc⟩:=HB.o
 have hbz:=zad a2 hw2
 obtain⟨y0,y1,z0,z1,cl⟩:=zaa hbz
 obtain⟨d0,d1,_⟩:=zaa (zae hbz (.bool pp) (.int .i64 pn))
 have Q:Hid (zP X w g m act (.returned (.tuple #[.agg #[.bool pp,.int .i64 pn],.int .i64 0])) ((w2.setCell ⟨w.heap.size+1,0,none⟩ (.bool pp)).setCell ⟨w.heap.size+1,1,none⟩ (.int .i64 pn))):=by
  unfold Hid
  rw[<-HA.o]
  exact za4 (p:=⟨pp,pn⟩) HI.o.1 HI.o.2 (fin2 (HJ.o.kp hw2) (mv.trans (Mv.zk hw2)) ⟨lL o2.1 hw2.size,o2.2⟩ (by omega) hwc _ _)
 clear hbz mv a1 o1 a2 o2 hwc hw2
 go_wp2_with fail
 exact bR (by simp[results,Tryz.results58,go_sem,d0,d1]) Q.o
theorem zm5(h:J X w g m R)(hn:0 < m.s.cA.length)(a b:Int):Calls Tryz.prog 58 #[.pointer (some ⟨X.mm,0,none⟩),.agg #[.int .i64 3,.int .i64 a,.int .i64 b]] w fun e w'=>zP X w g m (.give m.s.cur.arg) e w':=by
 obtain⟨w1,hw1,HB,HJ⟩:=pre2W h (.cells #[.int .i64 3,.int .i64 a,.int .i64 b] 44) (.cells #[.bool false,.int .i64 0] 67)
 generalize hA:(.give m.s.cur.arg:Act1)=act
 have HA:=zh hA
 clear hA
 have hcl:=h.clen
 obtain⟨gc,cap,hvc,hcur⟩:=HJ.o.curAt (by omega)
 have HS:Hid _:=zbw HJ.o (by omega) (fun wx hx=>(hcur wx hx).1) w1 kr
 have HC:Hid (∀ wx,Kp [] w1 wx->wx.cell? ⟨gc,(g.s.cA.length - 1) * 9+3,none⟩=some (.bool g.s.cur.arg.p)/\wx.cell? ⟨gc,(g.s.cA.length - 1) * 9+4,none⟩=some (.int .i64 g.s.cur.arg.n)/\gc < wx.heap.size):=fun wx hx=>⟨(hcur wx hx).2.1 3 (by omega),(hcur wx hx).2.1 4 (by omega),(hcur wx hx).2.2⟩
 have HI:Hid (_/\_):=⟨(h.cur hn).arg,(h.curwf hn).2⟩
 clear h hn hcl hvc hcur
 generalize (g.s.cA.length - 1) * 9=oo at *
 generalize g.s.cur.arg=c0 at *
 obtain⟨pp,pn⟩:=c0
 simp only at HC
 go_enter Tryz.func58,Tryz.ntmps58
 go_wp2_with fail
 rw[<-hw1.out]
 refine cM HS.o ?_
 rintro e w2 ⟨rfl,hw2⟩
 obtain⟨q0,q1,q2⟩:=HC.o w2 hw2
 obtain⟨mv,a1,o1,a2,o2,hwc⟩:=HB.o
 have hbz:=zad a2 hw2
 obtain⟨y0,y1,z0,z1,cl⟩:=zaa hbz
 obtain⟨d0,d1,_⟩:=zaa (zae hbz (.bool pp) (.int .i64 pn))
 have Q:Hid (zP X w g m act (.returned (.tuple #[.agg #[.bool pp,.int .i64 pn],.int .i64 0])) ((w2.setCell ⟨w.heap.size+1,0,none⟩ (.bool pp)).setCell ⟨w.heap.size+1,1,none⟩ (.int .i64 pn))):=by
  unfold Hid
  rw[<-HA.o]
  exact za4 (p:=⟨pp,pn⟩) HI.o.1 HI.o.2 (fin2 (HJ.o.kp hw2) (mv.trans (Mv.zk hw2)) ⟨lL o2.1 hw2.size,o2.2⟩ (by omega) hwc _ _)
 clear hbz mv a1 o1 a2 o2 hwc hw2
 go_wp2_with fail
 exact bR (by simp[results,Tryz.results58,go_sem,d0,d1]) Q.o
theorem zko(h:J X w g m R)(hv:2<=m.s.vA.length)(a b:Int):Calls Tryz.prog 58 #[.pointer (some ⟨X.mm,0,none⟩),.agg #[.int .i64 11,.int .i64 a,.int .i64 b]] w fun e w'=>zP X w g m (.give (truth (decide (m.s.top 1=m.s.top 0)))) e w':=by
 obtain⟨w1,hw1,HB,HJ⟩:=pre2W h (.cells #[.int .i64 11,.int .i64 a,.int .i64 b] 44) (.cells #[.bool false,.int .i64 0] 67)
 generalize hA:(.give (truth (decide (m.s.top 1=m.s.top 0))):Act1)=act
 have HA:=zh hA
 clear hA
 have hvl:=h.vlen
 have HT1:Hid (Calls Tryz.prog 49 #[.pointer (some ⟨X.mm,0,none⟩),.int .i64 1] w1 fun e w'=>e=.returned (.agg #[.bool (g.s.top 1).p,.int .i64 (g.s.top 1).n])/\Kp [] w1 w'):=zbc HJ.o 1 (by omega) _ kr
 have HT0:Hid (∀ wx,Kp [] w1 wx->Calls Tryz.prog 49 #[.pointer (some ⟨X.mm,0,none⟩),.int .i64 0] wx fun e w'=>e=.returned (.agg #[.bool (g.s.top 0).p,.int .i64 (g.s.top 0).n])/\Kp [] w1 w'):=zbc HJ.o 0 (by omega)
 have hsm:=zrk h.one (h.top 1 (by omega)) (h.top 0 (by omega))
 rw[<-hsm,<-zj3] at HA
 clear h hv hvl hsm
 generalize g.s.top 1=c1 at *
 generalize g.s.top 0=c0 at *
 obtain⟨p1,n1⟩:=c1
 obtain⟨p0,n0⟩:=c0
 simp only at HT0 HT1 HA
 have heq:=eq67 p1 p0 n1 n0
 generalize hbb:(p1 == p0 && n1 == n0)=bb at *
 clear hbb
 have HTr:Hid _:=fun wx (_:Kp [] w1 wx)=>zb2 wx bb
 have HIs:Hid (zI R ⟨false,if bb then 1 else 0⟩ (truth bb)/\wfC ⟨false,if bb then 1 else 0⟩):=⟨zb5 R _,zco (by cases bb <;> decide)⟩
 go_enter Tryz.func58,Tryz.ntmps58
 go_wp2_with fail
 rw[<-hw1.out]
 refine cM HT1.o ?_
 rintro e w2 ⟨rfl,hw2⟩
 have H0:Hid _:=HT0.o w2 hw2
 go_wp2_with fail
 refine cM H0.o ?_
 rintro e w3 ⟨rfl,hw3⟩
 have H1:Hid _:=HTr.o w3 hw3
 go_wp2_with fail
 refine cM H1.o ?_
 rintro e w4 ⟨rfl,hw4⟩
 clear heq
 have hk4:=hw3.trans hw4
 generalize (if bb then(1:Int) else 0)=nb at *
 obtain⟨mv,a1,o1,a2,o2,hwc⟩:=HB.o
 have hbz:=zad a2 hk4
 obtain⟨y0,y1,z0,z1,cl⟩:=zaa hbz
 obtain⟨d0,d1,_⟩:=zaa (zae hbz (.bool false) (.int .i64 nb))
 have Q:Hid (zP X w g m act (.returned (.tuple #[.agg #[.bool false,.int .i64 nb],.int .i64 0])) ((w4.setCell ⟨w.heap.size+1,0,none⟩ (.bool false)).setCell ⟨w.heap.size+1,1,none⟩ (.int .i64 nb))):=by
  unfold Hid
  rw[<-HA.o]
  exact za4 (p:=⟨false,nb⟩) HIs.o.1 HIs.o.2 (fin2 (HJ.o.kp hk4) (mv.trans (Mv.zk hk4)) ⟨lL o2.1 hk4.size,o2.2⟩ (by omega) hwc _ _)
 clear hbz mv a1 o1 a2 o2 hwc hw2 hw3 hw4 hk4
 go_wp2_with fail
 exact bR (by simp[results,Tryz.results58,go_sem,d0,d1]) Q.o
theorem zm6(h:J X w g m R)(hn:0 < m.s.cA.length)(hnx:m.next+1<=1000000000)(a b:Int)(ha:0<=a/\a < 12):Calls Tryz.prog 58 #[.pointer (some ⟨X.mm,0,none⟩),.agg #[.int .i64 2,.int .i64 a,.int .i64 b]] w fun e w'=>zP X w g m (.make ⟨1,60000+a,[]⟩) e w':=by
 obtain⟨w1,hw1,HB,HJ⟩:=pre2W h (.cells #[.int .i64 2,.int .i64 a,.int .i64 b] 44) (.cells #[.bool false,.int .i64 0] 67)
 generalize hA:(.make ⟨1,60000+a,[]⟩:Act1)=act
 have HA:=zh hA
 clear hA
 have HM:Hid _:=zgt HJ.o hn hnx 1 (60000+a) 0 (by omega)
 have hw:IntKind.i64.wrap (60000+a)=60000+a:=by
  rw[IntKind.wrap_i64]
  omega
 clear h ha hn hnx
 go_enter Tryz.func58,Tryz.ntmps58
 go_wp2_with fail
 rw[<-hw1.out]
 refine cM HM.o ?_
 intro e w2 q0
 have q:=q0.act0
 clear q0 hw
 obtain⟨mv,a1,o1,a2,o2,hwc⟩:=HB.o
 obtain⟨pp,pn,pf9,rfl,hb9,hQ⟩:=q.lift (w:=w) (g:=g) (b:=w.heap.size+1) mv a2 o2 (by omega) hwc
 rw[HA.o] at hQ
 obtain⟨y0,y1,z0,z1,cl⟩:=zaa hb9
 obtain⟨d0,d1,_⟩:=zaa (zae hb9 (.bool pp) (.int .i64 pn))
 have Q:=zh hQ
 clear mv a1 o1 a2 o2 hwc hb9 hQ q
 go_wp2_with fail
 exact bR (by simp[results,Tryz.results58,go_sem,d0,d1]) Q.o
theorem zm2(h:J X w g m R)(hn:0 < m.s.cA.length)(hnx:m.next+1<=1000000000)(a b:Int)(ha:0<=a/\a<=65535)(hb:0<=b/\b<=65535)(hv:b.toNat<=m.s.vA.length):Calls Tryz.prog 58 #[.pointer (some ⟨X.mm,0,none⟩),.agg #[.int .i64 7,.int .i64 a,.int .i64 b]] w fun e w'=>zP X w g m (.make ⟨0,a,m.s.lastN b.toNat⟩) e w':=by
 obtain⟨w1,hw1,HB,HJ⟩:=pre2W h (.cells #[.int .i64 7,.int .i64 a,.int .i64 b] 44) (.cells #[.bool false,.int .i64 0] 67)
 generalize hA:(.make ⟨0,a,m.s.lastN b.toNat⟩:Act1)=act
 have HA:=zh hA
 clear hA
 have HM:Hid _:=zf3 HJ.o hn hnx 0 a b.toNat (by omega) hv
 rw[show((b.toNat:Nat):Int)=b from Int.toNat_of_nonneg hb.1] at HM
 clear h ha hb hn hnx hv
 go_enter Tryz.func58,Tryz.ntmps58
 go_wp2_with fail
 rw[<-hw1.out]
 refine cM HM.o ?_
 intro e w2 q
 obtain⟨mv,a1,o1,a2,o2,hwc⟩:=HB.o
 obtain⟨pp,pn,pf9,rfl,hb9,hQ⟩:=q.lift (w:=w) (g:=g) (b:=w.heap.size+1) mv a2 o2 (by omega) hwc
 rw[HA.o] at hQ
 obtain⟨y0,y1,z0,z1,cl⟩:=zaa hb9
 obtain⟨d0,d1,_⟩:=zaa (zae hb9 (.bool pp) (.int .i64 pn))
 have Q:=zh hQ
 clear mv a1 o1 a2 o2 hwc hb9 hQ q
 go_wp2_with fail
 exact bR (by simp[results,Tryz.results58,go_sem,d0,d1]) Q.o
theorem zkl(h:J X w g m R)(hn:0 < m.s.cA.length)(hnx:m.next+1<=1000000000)(a b:Int)(ha:0<=a/\a<=65535)(hb:0<=b/\b<=65535):Calls Tryz.prog 58 #[.pointer (some ⟨X.mm,0,none⟩),.agg #[.int .i64 23,.int .i64 a,.int .i64 b]] w fun e w'=>zP X w g m (.make ⟨4,b,[num a]⟩) e w':=by
 obtain⟨w1,hw1,HB,HJ⟩:=pre2W h (.cells #[.int .i64 23,.int .i64 a,.int .i64 b] 44) (.cells #[.bool false,.int .i64 0] 67)
 generalize hA:(.make ⟨4,b,[num a]⟩:Act1)=act
 have HA:=zh hA
 clear hA
 have HM:Hid _:=ziu HJ.o hn hnx a b ha hb
 clear h ha hb hn hnx
 go_enter Tryz.func58,Tryz.ntmps58
 go_wp2_with fail
 rw[<-hw1.out]
 refine cM HM.o ?_
 intro e w2 q
 obtain⟨mv,a1,o1,a2,o2,hwc⟩:=HB.o
 obtain⟨pp,pn,pf9,rfl,hb9,hQ⟩:=q.lift (w:=w) (g:=g) (b:=w.heap.size+1) mv a2 o2 (by omega) hwc
 rw[HA.o] at hQ
 obtain⟨y0,y1,z0,z1,cl⟩:=zaa hb9
 obtain⟨d0,d1,_⟩:=zaa (zae hb9 (.bool pp) (.int .i64 pn))
 have Q:=zh hQ
 clear mv a1 o1 a2 o2 hwc hb9 hQ q
 go_wp2_with fail
 exact bR (by simp[results,Tryz.results58,go_sem,d0,d1]) Q.o
end
end Go.Proofs.YtkcmachfagcnaaaGreatDoor
