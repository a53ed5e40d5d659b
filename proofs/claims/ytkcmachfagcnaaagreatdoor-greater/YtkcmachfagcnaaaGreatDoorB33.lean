/- Part of Greater. -/
import Derived.Test.YtkcmachfagcnaaaGreatDoorB32
set_option maxHeartbeats 8000000
set_option maxRecDepth 100000
namespace Go.Proofs.YtkcmachfagcnaaaGreatDoor
open Go.RowKit Go.Deep Go.IntWalk
open C12 (Cd Fn In zT)
section
variable{X:Fx}{w:World}{g:Pg}{m:AM}{R:Int->Int->Prop}
theorem zP.box{w1:World}{g1:Pg}{a:Act1}{e:Ending}{w2:World}(h:zP X w1 g1 m a e w2):∃ f:MF,MBx w2 X.mm f/\f.hp=X.hp:=by
 cases h with
 | fail f m' hf w' g' R' hJ hm2=>exact⟨_,hJ.box,rfl⟩
 | val p v m' hv w' g' R' hJ hp hw hm2=>exact⟨_,hJ.box,rfl⟩
def Rd(X:Fx)(b:Nat)(o:Obj)(wx:World):Prop:=wx.heap[b]? = some o/\∃ f:MF,MBx wx X.mm f/\f.hp=X.hp
theorem Rd.hp{b:Nat}{o:Obj}{wx:World}(h:Rd X b o wx):wx.cell? ⟨X.mm,2,none⟩=some (.pointer (some ⟨X.hp,0,none⟩))/\X.mm < wx.heap.size:=by
 obtain⟨_,f,h1,h2⟩:=h
 rw[<-h2]
 exact h1.heap
theorem Rd.kp{b:Nat}{o:Obj}{w1 wx:World}(h:Rd X b o w1)(hk:Kp [] w1 wx):Rd X b o wx:=by
 obtain⟨h0,f,h1,h2⟩:=h
 exact⟨zad h0 hk,f,h1.kp hk (by simp),h2⟩
theorem Rd.set2{b c:Nat}{o:Obj}{wx:World}(h:Rd X b o wx)(hb:b≠c)(hm:X.mm≠c)(u1 u2:Value):Rd X b o ((wx.setCell ⟨c,0,none⟩ u1).setCell ⟨c,1,none⟩ u2):=by
 obtain⟨h0,f,h1,h2⟩:=h
 exact⟨(zb7 hb).trans h0,f,(zb7 hm).trans h1,h2⟩
theorem zqa(h:J X w g m R)(hd:okD X.cd m.D)(hn:0 < m.s.cA.length)(hnx:m.next+1<=1000000000)(a b:Cl)(hab:zI R a b):Calls Tryz.prog 115 #[.pointer (some ⟨X.mm,0,none⟩),sg [115,117,98],.agg #[.bool a.p,.int .i64 a.n]] w fun e w'=>zP X w g m (subA m.D b) e w':=by
 obtain⟨ap,an⟩:=a
 simp only
 obtain⟨w1,hw1,HB,HJ⟩:=pre2W h (.cells #[.bool ap,.int .i64 an] 67) (.cells #[.bool false,.int .i64 0] 67)
 have HT:Hid (∀ wx,Kp [] w1 wx->_):=zcz HJ.o ⟨ap,an⟩ b hab 2
 have HF:=hf2 HB.o HJ.o
 have Hd:=zh hd
 have Hn:Hid (_/\_):=⟨hn,hnx⟩
 have Hab:=zh hab
 have HK0:Hid (Kp [] w1 w1.drew):=kr.drew
 clear hd h hab hn hnx
 generalize hA:subA m.D b=act
 have HA:=zh hA
 clear hA
 unfold subA at HA
 unfold sg
 go_enter Tryz.func115,Tryz.ntmps115
 go_upto_region 4 with fail
 rw[<-hw1.out]
 cases k1:isT m.D b 2 with
 | false=>
  rw[k1] at HA HT
  rw[Bool.false_and,Bool.false_and,if_neg Bool.false_ne_true] at HA
  refine rQ HK0.o (fun ops Hops=>?_)
  iterate 6
   (refine wQ ?_;apply xI;(·intro wx hwx;obtain⟨⟨f0,f1,f2⟩,f3,f4⟩:=HF.o wx hwx;go_simp <;> first | with_reducible rfl | with_reducible exact⟨rfl,rfl⟩ | exact HT.o _ hwx);try go_simp)
  iterate 10
   (refine wU ?_;go_simp)
  iterate 2
   (refine wQ ?_;apply xI;(·intro wx hwx;go_simp <;> first | rfl | exact⟨rfl,rfl⟩);try go_simp)
  iterate 8
   (refine wU ?_;go_simp)
  (refine wQ ?_;apply xI;(·intro wx hwx;go_simp <;> first | rfl | exact⟨rfl,rfl⟩);try go_simp)
  refine wpQuiet_nil ?_
  clear Hops ops
  intro w2 hw2
  obtain⟨⟨y0,y1,z0,z1,cl⟩,d0,d1,Q⟩:=endF2 HB.o HJ.o hw2 (.inl ⟨HA.o.symm,rfl⟩)
  clear k1 hw2
  go_wp2_with fail
  exact bR (by simp[results,Tryz.results115,go_sem,d0,d1]) Q.o
 | true=>
  obtain⟨hap,pf,hpf,hget⟩:=HJ.o.viewTs Hab.o k1
  simp only at hap
  subst hap
  rw[k1] at HA HT
  rw[Bool.true_and] at HA
  have HG:Hid (∀ i,i < 2->∀ wr,Kp [] w1 wr->∀ wx,Kp [] wr wx->Calls Tryz.prog 82 #[.pointer (some ⟨X.hp,0,none⟩),.int .i64 an,.int .i64 (i:Nat)] wx fun e w'=>e=.returned (.agg #[.bool (pf i).p,.int .i64 (pf i).n])/\Kp [] wr w'):=fun i hi wr hr wx hx=>hget wr hr wx hx i hi
  have HG0:Hid (∀ wx,Kp [] w1 wx->Calls Tryz.prog 82 #[.pointer (some ⟨X.hp,0,none⟩),.int .i64 an,.int .i64 0] wx fun e w'=>e=.returned (.agg #[.bool (pf 0).p,.int .i64 (pf 0).n])/\Kp [] w1 w'):=fun wx hx=>hget w1 (Kp.refl _ _) wx hx 0 (by omega)
  have HG1:Hid (∀ wx,Kp [] w1 wx->Calls Tryz.prog 82 #[.pointer (some ⟨X.hp,0,none⟩),.int .i64 an,.int .i64 1] wx fun e w'=>e=.returned (.agg #[.bool (pf 1).p,.int .i64 (pf 1).n])/\Kp [] w1 w'):=fun wx hx=>hget w1 (Kp.refl _ _) wx hx 1 (by omega)
  have HC:Hid (∀ wx,Kp [] w1 wx->_):=zbl HJ.o (pf 0) (getA m.D b.n 0) (hpf 0 (by omega)).1 2
  have Hpf:=zh hpf
  clear hget hpf
  have hf0:=zc2 (pf 1).p (pf 1).n
  have hf1:=za9 (pf 1).p (pf 1).n
  cases k2:thK m.D (getA m.D b.n 0) 2 with
  | false=>
   rw[k2] at HA HC
   rw[Bool.false_and,if_neg Bool.false_ne_true] at HA
   generalize pf 0=c0 at *
   obtain⟨c0p,c0n⟩:=c0
   simp only at HG0 HC
   refine rQ HK0.o (fun ops Hops=>?_)
   iterate 18
    (refine wQ ?_;apply xI;(·intro wx hwx;obtain⟨⟨f0,f1,f2⟩,f3,f4⟩:=HF.o wx hwx;go_simp <;> first | with_reducible rfl | with_reducible exact⟨rfl,rfl⟩ | with_reducible exact HT.o _ hwx | with_reducible exact HG0.o _ hwx | with_reducible exact HC.o _ hwx | exact HT.o _ hwx | exact HG0.o _ hwx | exact HC.o _ hwx);try go_simp)
   iterate 8
    (refine wU ?_;go_simp)
   (refine wQ ?_;apply xI;(·intro wx hwx;go_simp <;> first | rfl | exact⟨rfl,rfl⟩);try go_simp)
   refine wpQuiet_nil ?_
   clear Hops ops
   intro w2 hw2
   obtain⟨⟨y0,y1,z0,z1,cl⟩,d0,d1,Q⟩:=endF2 HB.o HJ.o hw2 (.inl ⟨HA.o.symm,rfl⟩)
   clear k1 k2 hw2 hf0 hf1
   go_wp2_with fail
   exact bR (by simp[results,Tryz.results115,go_sem,d0,d1]) Q.o
  | true=>
   rw[k2] at HA HC
   rw[Bool.true_and] at HA
   have HY:Hid (∀ wx,Kp [] w1 wx->_):=zc4 HJ.o Hd.o (pf 0) (getA m.D b.n 0) (Hpf.o 0 (by omega)).1 k2
   obtain⟨_,ut,hut,hkt⟩:=zat k2
   have hsz:=zbr Hd.o hut hkt
   obtain⟨_,tb,htb,hkb,hlb⟩:=zdv k1
   have Hnum:Hid _:=fun i=>zec Hd.o htb (by omega) i
   obtain⟨hq1,hq2,-⟩:=(Hpf.o 1 (by omega)).1
   have Hq:Hid (_/\_):=⟨hq1,hq2⟩
   generalize hS:bytesA m.D (getA m.D b.n 0).n=L at *
   have HL:Hid (L.length<=200):=by unfold Hid;omega
   clear hq1 hq2 hut hkt hsz htb hkb hlb hS
   generalize hc0:pf 0=c0 at *
   obtain⟨c0p,c0n⟩:=c0
   generalize hc1:pf 1=c1 at *
   obtain⟨c1p,c1n⟩:=c1
   simp only at HG0 HG1 HC HY Hq hf0 hf1
   clear hc0 hc1
   cases c1p with
   | true=>
    rw[<-Hq.o.1,Bool.not_true,if_neg Bool.false_ne_true] at HA
    refine rQ HK0.o (fun ops Hops=>?_)
    repeat
     (refine wQ ?_;apply xI;(·intro wx hwx;obtain⟨⟨f0,f1,f2⟩,f3,f4⟩:=HF.o wx hwx;go_simp <;> first | with_reducible rfl | with_reducible exact⟨rfl,rfl⟩ | with_reducible exact HT.o _ hwx | with_reducible exact HG0.o _ hwx | with_reducible exact HC.o _ hwx | with_reducible exact HG1.o _ hwx | exact HT.o _ hwx | exact HG0.o _ hwx | exact HC.o _ hwx | exact HG1.o _ hwx);try go_simp)
    refine wpQuiet_nil ?_
    clear Hops ops
    intro w2 hw2
    obtain⟨⟨y0,y1,z0,z1,cl⟩,d0,d1,Q⟩:=endF2 HB.o HJ.o hw2 (.inl ⟨HA.o.symm,rfl⟩)
    clear k1 k2 hw2 hf0 hf1
    go_wp2_with fail
    exact bR (by simp[results,Tryz.results115,go_sem,d0,d1]) Q.o
   | false=>
    have hbn:=Hnum.o 1
    rw[<-Hq.o.1,Bool.not_false,if_pos rfl,<-Hq.o.2 rfl] at HA
    have Hb:Hid (-1000000000<=c1n/\c1n<=1000000000):=by
     have:=hbn Hq.o.1.symm
     rw[<-Hq.o.2 rfl] at this
     exact this
    clear hbn
    refine rQ HK0.o (fun ops Hops=>?_)
    repeat
     (refine wQ ?_;apply xI;(·intro wx hwx;obtain⟨⟨f0,f1,f2⟩,f3,f4⟩:=HF.o wx hwx;go_simp <;> first | with_reducible rfl | with_reducible exact⟨rfl,rfl⟩ | with_reducible exact HT.o _ hwx | with_reducible exact HG0.o _ hwx | with_reducible exact HC.o _ hwx | with_reducible exact HG1.o _ hwx | exact HT.o _ hwx | exact HG0.o _ hwx | exact HC.o _ hwx | exact HG1.o _ hwx);try go_simp)
    refine wpQuiet_nil ?_
    clear Hops ops
    intro w2 hw2
    have HK2:=zh hw2.drew
    clear hw2
    obtain⟨S,hS⟩:∃ S:ByteArray,S=⟨L.toArray⟩:=⟨_,rfl⟩
    rw[<-hS] at HY
    have HS:Hid (S.data.toList=L/\S.size=L.length):=by rw[hS];exact⟨by simp,by simp[ByteArray.size]⟩
    clear hS
    go_upto_region 6 with fail
    refine rQ HK2.o (fun ops Hops=>?_)
    repeat
     (refine wQ ?_;apply xI;(·intro wx hwx;obtain⟨⟨f0,f1,f2⟩,f3,f4⟩:=HF.o wx hwx;go_simp <;> first | with_reducible rfl | with_reducible exact⟨rfl,rfl⟩ | with_reducible exact HG0.o _ hwx | with_reducible exact HY.o _ hwx | with_reducible exact HG1.o _ hwx | exact HG0.o _ hwx | exact HY.o _ hwx | exact HG1.o _ hwx);try go_simp)
    refine wpQuiet_nil ?_
    clear Hops ops
    intro w3 hw3
    have Hw3:=zh hw3
    clear hw3 hf0 hf1
    by_cases c1:c1n < 0
    ·rw[if_pos (Or.inl c1)] at HA
     obtain⟨⟨y0,y1,z0,z1,cl⟩,d0,d1,Q⟩:=endF2 HB.o HJ.o Hw3.o (.inr ⟨HA.o.symm,by decide,by decide⟩)
     clear k1 k2
     go_wp2_with fail
     exact bR (by simp[results,Tryz.results115,go_sem,d0,d1]) Q.o
    ·obtain⟨I,rfl⟩:∃ I:Nat,c1n=(I:Int):=⟨c1n.toNat,by omega⟩
     rw[Int.toNat_natCast] at HA
     by_cases c2:S.size<=I
     ·rw[if_pos (Or.inr (by rw[<-HS.o.2];omega))] at HA
      have c2':=Int.ofNat_le.2 c2
      obtain⟨⟨y0,y1,z0,z1,cl⟩,d0,d1,Q⟩:=endF2 HB.o HJ.o Hw3.o (.inr ⟨HA.o.symm,by decide,by decide⟩)
      clear k1 k2 c2
      go_wp2_with fail
      exact bR (by simp[results,Tryz.results115,go_sem,d0,d1]) Q.o
     ·rw[if_neg (by rw[<-HS.o.2];omega)] at HA
      have c2':¬ (S.size:Int)<=(I:Int):=fun e=>c2 (Int.ofNat_le.1 e)
      have hidx:(0:Int)<=(I:Int)/\(I:Int) < (S.size:Int):=by omega
      have hidx1:=hidx.1
      have hidx2:=hidx.2
      have HI:Hid (I < S.size):=by unfold Hid;omega
      clear c2 hidx
      have Hval:Hid (wrap64 ((S[I]'HI.o).toNat:Int)=((((L[I]?).getD 0).toNat:Nat):Int)/\((((L[I]?).getD 0).toNat:Nat):Int)<=255):=by
       have e1:L[I]? = some (S[I]'HI.o):=by
        rw[<-HS.o.1]
        have hI2:I < S.data.toList.length:=by rw[<-zr4];exact HI.o
        rw[gE hI2]
        rfl
       have e2:=UInt8.toNat_lt (S[I]'HI.o)
       rw[e1]
       simp only[Option.getD_some]
       exact⟨wrap64_in _ (by omega),by omega⟩
      go_wp2_with fail
      refine cM (za0 w3 _) ?_
      rintro e w5 ⟨rfl,hw5⟩
      obtain⟨vv,hvv⟩:∃ vv,vv=wrap64 ((S[I]'HI.o).toNat:Int):=⟨_,rfl⟩
      rw[<-hvv]
      have Hvv:Hid (vv=((((L[I]?).getD 0).toNat:Nat):Int)/\0<=vv/\vv<=255):=by
       have:=Hval.o
       unfold Hid
       omega
      clear hvv
      have hk5:=Hw3.o.trans hw5
      obtain⟨mv,a1,o1,a2,o2,hwc⟩:=HB.o
      have hbz:=zad a2 hk5
      obtain⟨y0,y1,z0,z1,cl⟩:=zaa hbz
      obtain⟨d0,d1,_⟩:=zaa (zae hbz (.bool false) (.int .i64 vv))
      have Q:Hid (zP X w g m act (.returned (.tuple #[.agg #[.bool false,.int .i64 vv],.int .i64 0])) ((w5.setCell ⟨w.heap.size+1,0,none⟩ (.bool false)).setCell ⟨w.heap.size+1,1,none⟩ (.int .i64 vv))):=by
       unfold Hid
       rw[<-HA.o]
       rw[<-Hvv.o.1]
       exact za4 (p:=⟨false,vv⟩) (zb5 _ _) (zco (by have:=Hvv.o;omega)) (fin2 (HJ.o.kp hk5) (mv.trans (Mv.zk hk5)) ⟨lL o2.1 hk5.size,o2.2⟩ (by omega) hwc _ _)
      clear hbz a1 o1 a2 o2 mv hwc hw5 hk5 k1 k2
      go_wp2_with fail
      exact bR (by simp[results,Tryz.results115,go_sem,d0,d1]) Q.o
theorem znt(h:J X w g m R)(hd:okD X.cd m.D)(hn:0 < m.s.cA.length)(hnx:m.next+1<=1000000000)(a b:Cl)(hab:zI R a b):Calls Tryz.prog 115 #[.pointer (some ⟨X.mm,0,none⟩),sg [112,97,114,116],.agg #[.bool a.p,.int .i64 a.n]] w fun e w'=>zP X w g m (partA m.D b) e w':=by
 obtain⟨ap,an⟩:=a
 simp only
 obtain⟨w1,hw1,HB,HJ⟩:=pre2W h (.cells #[.bool ap,.int .i64 an] 67) (.cells #[.bool false,.int .i64 0] 67)
 have HT:Hid (∀ wx,Kp [] w1 wx->_):=zcz HJ.o ⟨ap,an⟩ b hab 3
 have HF:=hf2 HB.o HJ.o
 have Hd:=zh hd
 have Hn:Hid (_/\_):=⟨hn,hnx⟩
 have Hab:=zh hab
 have HK0:Hid (Kp [] w1 w1.drew):=kr.drew
 clear hd h hab hn hnx
 generalize hA:partA m.D b=act
 have HA:=zh hA
 clear hA
 unfold partA at HA
 unfold sg
 go_enter Tryz.func115,Tryz.ntmps115
 go_upto_region 4 with fail
 rw[<-hw1.out]
 cases k1:isT m.D b 3 with
 | false=>
  rw[k1] at HA HT
  rw[Bool.false_and,Bool.false_and,if_neg Bool.false_ne_true] at HA
  refine rQ HK0.o (fun ops Hops=>?_)
  iterate 6
   (refine wQ ?_;apply xI;(·intro wx hwx;obtain⟨⟨f0,f1,f2⟩,f3,f4⟩:=HF.o wx hwx;go_simp <;> first | with_reducible rfl | with_reducible exact⟨rfl,rfl⟩ | exact HT.o _ hwx);try go_simp)
  iterate 10
   (refine wU ?_;go_simp)
  iterate 2
   (refine wQ ?_;apply xI;(·intro wx hwx;go_simp <;> first | rfl | exact⟨rfl,rfl⟩);try go_simp)
  iterate 8
   (refine wU ?_;go_simp)
  (refine wQ ?_;apply xI;(·intro wx hwx;go_simp <;> first | rfl | exact⟨rfl,rfl⟩);try go_simp)
  refine wpQuiet_nil ?_
  clear Hops ops
  intro w2 hw2
  obtain⟨⟨y0,y1,z0,z1,cl⟩,d0,d1,Q⟩:=endF2 HB.o HJ.o hw2 (.inl ⟨HA.o.symm,rfl⟩)
  clear k1 hw2
  go_wp2_with fail
  exact bR (by simp[results,Tryz.results115,go_sem,d0,d1]) Q.o
 | true=>
  obtain⟨hap,pf,hpf,hget⟩:=HJ.o.viewTs Hab.o k1
  simp only at hap
  subst hap
  rw[k1] at HA HT
  rw[Bool.true_and] at HA
  have HG:Hid (∀ i,i < 3->∀ wr,Kp [] w1 wr->∀ wx,Kp [] wr wx->Calls Tryz.prog 82 #[.pointer (some ⟨X.hp,0,none⟩),.int .i64 an,.int .i64 (i:Nat)] wx fun e w'=>e=.returned (.agg #[.bool (pf i).p,.int .i64 (pf i).n])/\Kp [] wr w'):=fun i hi wr hr wx hx=>hget wr hr wx hx i hi
  have HG0:Hid (∀ wx,Kp [] w1 wx->Calls Tryz.prog 82 #[.pointer (some ⟨X.hp,0,none⟩),.int .i64 an,.int .i64 0] wx fun e w'=>e=.returned (.agg #[.bool (pf 0).p,.int .i64 (pf 0).n])/\Kp [] w1 w'):=fun wx hx=>hget w1 (Kp.refl _ _) wx hx 0 (by omega)
  have HG1:Hid (∀ wx,Kp [] w1 wx->Calls Tryz.prog 82 #[.pointer (some ⟨X.hp,0,none⟩),.int .i64 an,.int .i64 1] wx fun e w'=>e=.returned (.agg #[.bool (pf 1).p,.int .i64 (pf 1).n])/\Kp [] w1 w'):=fun wx hx=>hget w1 (Kp.refl _ _) wx hx 1 (by omega)
  have HC:Hid (∀ wx,Kp [] w1 wx->_):=zbl HJ.o (pf 0) (getA m.D b.n 0) (hpf 0 (by omega)).1 2
  have Hpf:=zh hpf
  clear hget hpf
  have hf0:=zc2 (pf 1).p (pf 1).n
  have hf1:=za9 (pf 1).p (pf 1).n
  cases k2:thK m.D (getA m.D b.n 0) 2 with
  | false=>
   rw[k2] at HA HC
   rw[Bool.false_and,if_neg Bool.false_ne_true] at HA
   generalize pf 0=c0 at *
   obtain⟨c0p,c0n⟩:=c0
   simp only at HG0 HC
   refine rQ HK0.o (fun ops Hops=>?_)
   iterate 18
    (refine wQ ?_;apply xI;(·intro wx hwx;obtain⟨⟨f0,f1,f2⟩,f3,f4⟩:=HF.o wx hwx;go_simp <;> first | with_reducible rfl | with_reducible exact⟨rfl,rfl⟩ | with_reducible exact HT.o _ hwx | with_reducible exact HG0.o _ hwx | with_reducible exact HC.o _ hwx | exact HT.o _ hwx | exact HG0.o _ hwx | exact HC.o _ hwx);try go_simp)
   iterate 8
    (refine wU ?_;go_simp)
   (refine wQ ?_;apply xI;(·intro wx hwx;go_simp <;> first | rfl | exact⟨rfl,rfl⟩);try go_simp)
   refine wpQuiet_nil ?_
   clear Hops ops
   intro w2 hw2
   obtain⟨⟨y0,y1,z0,z1,cl⟩,d0,d1,Q⟩:=endF2 HB.o HJ.o hw2 (.inl ⟨HA.o.symm,rfl⟩)
   clear k1 k2 hw2 hf0 hf1
   go_wp2_with fail
   exact bR (by simp[results,Tryz.results115,go_sem,d0,d1]) Q.o
  | true=>
   rw[k2] at HA HC
   rw[Bool.true_and] at HA
   have HY:Hid (∀ wx,Kp [] w1 wx->_):=zc4 HJ.o Hd.o (pf 0) (getA m.D b.n 0) (Hpf.o 0 (by omega)).1 k2
   obtain⟨_,ut,hut,hkt⟩:=zat k2
   have hsz:=zbr Hd.o hut hkt
   obtain⟨_,tb,htb,hkb,hlb⟩:=zdv k1
   have Hnum:Hid _:=fun i=>zec Hd.o htb (by omega) i
   obtain⟨hq1,hq2,-⟩:=(Hpf.o 1 (by omega)).1
   have Hq:Hid (_/\_):=⟨hq1,hq2⟩
   generalize hS:bytesA m.D (getA m.D b.n 0).n=L at *
   have HL:Hid (L.length<=200):=by unfold Hid;omega
   clear hq1 hq2 hut hkt hsz htb hkb hlb hS
   generalize hc0:pf 0=c0 at *
   obtain⟨c0p,c0n⟩:=c0
   generalize hc1:pf 1=c1 at *
   obtain⟨c1p,c1n⟩:=c1
   simp only at HG0 HG1 HC HY Hq hf0 hf1
   clear hc0 hc1
   cases c1p with
   | true=>
    rw[<-Hq.o.1,Bool.not_true,if_neg Bool.false_ne_true] at HA
    refine rQ HK0.o (fun ops Hops=>?_)
    repeat
     (refine wQ ?_;apply xI;(·intro wx hwx;obtain⟨⟨f0,f1,f2⟩,f3,f4⟩:=HF.o wx hwx;go_simp <;> first | with_reducible rfl | with_reducible exact⟨rfl,rfl⟩ | with_reducible exact HT.o _ hwx | with_reducible exact HG0.o _ hwx | with_reducible exact HC.o _ hwx | with_reducible exact HG1.o _ hwx | exact HT.o _ hwx | exact HG0.o _ hwx | exact HC.o _ hwx | exact HG1.o _ hwx);try go_simp)
    refine wpQuiet_nil ?_
    clear Hops ops
    intro w2 hw2
    obtain⟨⟨y0,y1,z0,z1,cl⟩,d0,d1,Q⟩:=endF2 HB.o HJ.o hw2 (.inl ⟨HA.o.symm,rfl⟩)
    clear k1 k2 hw2 hf0 hf1
    go_wp2_with fail
    exact bR (by simp[results,Tryz.results115,go_sem,d0,d1]) Q.o
   | false=>
    have hbn:=Hnum.o 1
    rw[<-Hq.o.1,Bool.not_false,if_pos rfl,<-Hq.o.2 rfl] at HA
    have Hb:Hid (-1000000000<=c1n/\c1n<=1000000000):=by
     have:=hbn Hq.o.1.symm
     rw[<-Hq.o.2 rfl] at this
     exact this
    clear hbn
    refine rQ HK0.o (fun ops Hops=>?_)
    repeat
     (refine wQ ?_;apply xI;(·intro wx hwx;obtain⟨⟨f0,f1,f2⟩,f3,f4⟩:=HF.o wx hwx;go_simp <;> first | with_reducible rfl | with_reducible exact⟨rfl,rfl⟩ | with_reducible exact HT.o _ hwx | with_reducible exact HG0.o _ hwx | with_reducible exact HC.o _ hwx | with_reducible exact HG1.o _ hwx | exact HT.o _ hwx | exact HG0.o _ hwx | exact HC.o _ hwx | exact HG1.o _ hwx);try go_simp)
    refine wpQuiet_nil ?_
    clear Hops ops
    intro w2 hw2
    have HK2:=zh hw2.drew
    clear hw2
    obtain⟨S,hS⟩:∃ S:ByteArray,S=⟨L.toArray⟩:=⟨_,rfl⟩
    rw[<-hS] at HY
    have HS:Hid (S.data.toList=L/\S.size=L.length):=by rw[hS];exact⟨by simp,by simp[ByteArray.size]⟩
    clear hS
    go_upto_region 6 with fail
    refine rQ HK2.o (fun ops Hops=>?_)
    repeat
     (refine wQ ?_;apply xI;(·intro wx hwx;obtain⟨⟨f0,f1,f2⟩,f3,f4⟩:=HF.o wx hwx;go_simp <;> first | with_reducible rfl | with_reducible exact⟨rfl,rfl⟩ | with_reducible exact HG0.o _ hwx | with_reducible exact HY.o _ hwx | with_reducible exact HG1.o _ hwx | exact HG0.o _ hwx | exact HY.o _ hwx | exact HG1.o _ hwx);try go_simp)
    refine wpQuiet_nil ?_
    clear Hops ops
    intro w3 hw3
    have Hw3:=zh hw3
    clear hw3 hf0 hf1
    rw[<-HS.o.1] at HA
    have hJ3:=HJ.o.kp Hw3.o
    have HG2:Hid (∀ wx,Kp [] w3 wx->Calls Tryz.prog 82 #[.pointer (some ⟨X.hp,0,none⟩),.int .i64 an,.int .i64 2] wx fun e w'=>e=.returned (.agg #[.bool (pf 2).p,.int .i64 (pf 2).n])/\Kp [] w3 w'):=fun wx hx=>HG.o 2 (by omega) w3 Hw3.o wx hx
    have HPt:Hid (∀ wx,Kp [] w3 wx->Calls Tryz.prog 123 #[.pointer (some ⟨X.mm,0,none⟩),.string S,.int .i64 c1n,.agg #[.bool (pf 2).p,.int .i64 (pf 2).n]] wx fun e w'=>zP X wx g m _ e w'):=fun wx hx=>zsu (hJ3.kp hx) Hn.o.1 Hn.o.2 S (by rw[HS.o.2];exact HL.o) c1n Hb.o (pf 2) (getA m.D b.n 2) (Hpf.o 2 (by omega)).1 (Hnum.o 2)
    have HC:Hid (∀ wx,Kp [] w3 wx->Rd X (w.heap.size) (.cells #[.bool true,.int .i64 an] 67) wx):=fun wx hx=>⟨zad (zad HB.o.2.1 Hw3.o) hx,_,hJ3.box.kp hx (by simp),rfl⟩
    have Hmm:Hid (X.mm≠w.heap.size+1):=fun e=>HB.o.2.2.2.2.1.2 (by rw[<-e];exact za3)
    clear hJ3 k1 k2
    generalize pf 2=c2c at *
    obtain⟨c2p,c2n⟩:=c2c
    simp only at HG2 HPt
    go_upto_region 8 with fail
    refine zao (C:=fun wx=>Rd X (w.heap.size) (.cells #[.bool true,.int .i64 an] 67) wx) (by kernel_rfl) ?_
    refine qA 0 rfl ?_
    apply xI
    (intro wx hwx;go_simp <;> rfl)
    refine qA 1 rfl ?_
    apply xI
    (intro wx hwx;go_simp <;> rfl)
    refine qA 2 rfl ?_
    apply xI
    (intro wx hwx;go_simp <;> rfl)
    refine qA 3 rfl ?_
    apply xI
    (intro wx hwx;go_simp <;> rfl)
    refine qA 4 rfl ?_
    apply xI
    (intro wx hwx;go_simp <;> rfl)
    refine qA 5 rfl ?_
    apply xI
    (intro wx hwx;go_simp <;> rfl)
    refine qA 6 rfl ?_
    apply xI
    (intro wx hwx;obtain⟨x1,x2⟩:=Rd.hp hwx;obtain⟨f0,f1,f2,f3,f4⟩:=zaa hwx.1;go_simp <;> rfl)
    refine qA 7 rfl ?_
    apply xI
    (intro wx hwx;go_simp <;> rfl)
    refine qA 8 rfl ?_
    apply xI
    (intro wx hwx;obtain⟨x1,x2⟩:=Rd.hp hwx;obtain⟨f0,f1,f2,f3,f4⟩:=zaa hwx.1;go_simp <;> rfl)
    refine oA 9 (HC.o _ (Kp.refl _ _).drew) rfl (fun K hK=>?_)
    go_simp
    refine cM (HG2.o _ (Kp.refl _ _).drew) ?_
    rintro e8 w8 ⟨rfl,hw8⟩
    refine hK _ _ ?_
    clear hK K
    refine oA 10 (HC.o _ hw8) rfl (fun K hK=>?_)
    go_simp
    refine cM (HPt.o _ hw8) ?_
    intro e9 w9 q
    obtain⟨mv,a1,o1,a2,o2,hwc⟩:=HB.o
    have hk38:=Hw3.o.trans hw8
    obtain⟨pp,pn,pf9,rfl,hb9,hQ⟩:=q.lift (w:=w) (g:=g) (b:=w.heap.size+1) (mv.trans (Mv.zk hk38)) (zad a2 hk38) ⟨lL o2.1 hk38.size,o2.2⟩ (by omega) hwc
    have hC9:Rd X (w.heap.size) (.cells #[.bool true,.int .i64 an] 67) w9:=by
     obtain⟨g9,hm9⟩:=q.mv
     obtain⟨f9,hf9,he9⟩:=q.box
     have o1':Off X w8 g (w.heap.size):=⟨lL o1.1 hk38.size,o1.2⟩
     exact⟨(o1'.mv hm9).2.trans (HC.o _ hw8).1,f9,hf9,he9⟩
    refine hK _ _ ?_
    clear hK K
    obtain⟨y0,y1,z0,z1,cl⟩:=zaa hb9
    obtain⟨d0,d1,_⟩:=zaa (zae hb9 (.bool pp) (.int .i64 pn))
    rw[HA.o] at hQ
    have Q:=zh hQ
    have HC9:Hid (Rd X (w.heap.size) (.cells #[.bool true,.int .i64 an] 67) ((w9.setCell ⟨w.heap.size+1,0,none⟩ (.bool pp)).setCell ⟨w.heap.size+1,1,none⟩ (.int .i64 pn))):=hC9.set2 (by omega) Hmm.o _ _
    have hD9:=zh hC9
    clear mv a1 o1 a2 o2 hwc hb9 hQ q hw8 hk38 hC9
    refine qA 11 rfl ?_
    apply xI
    (intro wx hwx;go_simp <;> rfl)
    refine qA 12 rfl ?_
    apply xI
    (intro wx hwx;go_simp <;> rfl)
    refine oA 13 hD9.out rfl (fun K hK=>?_)
    go_simp
    refine hK _ _ ?_
    clear hK K
    refine oA 14 HC9.o rfl (fun K hK=>?_)
    go_simp
    refine hK _ _ ?_
    clear hK K
    refine zag HC9.o (by kernel_rfl) ?_
    go_simp
    clear hD9
    go_wp2_with fail
    exact bR (by simp[results,Tryz.results115,go_sem,d0,d1]) Q.o
theorem zo9(k:Nat)(hk:k < 9)(h:J X w g m R)(hd:okD X.cd m.D)(hn:0 < m.s.cA.length)(hnx:m.next+1<=1000000000)(hv0:1 < m.s.vA.length)(hok0:okC (m.s.top 0))(hok1:okC (m.s.top 1)):Calls Tryz.prog 90 #[.pointer (some ⟨X.mm,0,none⟩),sg ((signT[k]?).getD [])] w fun e w'=>zP X w g m (if(m.s.top 1).p || (m.s.top 0).p then .wrong else reck k (m.s.top 1).n (m.s.top 0).n) e w':=by
 have HRk:Hid _:=fun wx a b (ha:(-1000000000<=a/\a<=1000000000)) (hb:(-1000000000<=b/\b<=1000000000))=>zsq wx k hk a b ha hb
 have HPu:Hid (∀ a b,Pur (reck k a b)):=fun a b=>zss _ _ _
 generalize reck k=rk at *
 obtain⟨w1,hw1,HB,HJ⟩:=pre1W h (.cells #[.bool false,.int .i64 0] 67)
 have hvl:=h.vlen
 have HT0:Hid (∀ wx,Kp [] w1 wx->Calls Tryz.prog 49 #[.pointer (some ⟨X.mm,0,none⟩),.int .i64 0] wx fun e w'=>e=.returned (.agg #[.bool (g.s.top 0).p,.int .i64 (g.s.top 0).n])/\Kp [] w1 w'):=zbc HJ.o 0 (by omega)
 have HI0:Hid (_/\_/\_):=⟨h.top 0 (by omega),h.topwf 0 (by omega),hok0⟩
 have HT1:Hid (∀ wr,Kp [] w1 wr->∀ wx,Kp [] wr wx->Calls Tryz.prog 49 #[.pointer (some ⟨X.mm,0,none⟩),.int .i64 1] wx fun e w'=>e=.returned (.agg #[.bool (g.s.top 1).p,.int .i64 (g.s.top 1).n])/\Kp [] wr w'):=fun wr hr=>zbc (HJ.o.kp hr) 1 (by omega)
 have HI1:Hid (_/\_/\_):=⟨h.top 1 (by omega),h.topwf 1 (by omega),hok1⟩
 have Hd:=zh hd
 have Hn:Hid (_/\_):=⟨hn,hnx⟩
 clear h hd hn hnx hv0 hok0 hok1 hvl
 generalize hA:(if(m.s.top 1).p || (m.s.top 0).p then .wrong else rk (m.s.top 1).n (m.s.top 0).n:Act1)=act
 have HA:=zh hA
 clear hA
 generalize g.s.top 0=c0 at *
 obtain⟨vp,vn⟩:=c0
 generalize m.s.top 0=v at *
 generalize g.s.top 1=c1 at *
 obtain⟨up,un⟩:=c1
 generalize m.s.top 1=u at *
 simp only at HT1
 simp only at HT0
 have hkc:k=0\/k=1\/k=2\/k=3\/k=4\/k=5\/k=6\/k=7\/k=8:=by omega
 clear hk
 unfold sg at *
 rcases hkc with rfl | rfl | rfl | rfl | rfl | rfl | rfl | rfl | rfl
 all_goals
  simp only[signT,List.getElem?_cons_succ,List.getElem?_cons_zero,Option.getD_some] at HRk ⊢
  go_enter Tryz.func90,Tryz.ntmps90
  go_wp2_with fail
  rw[<-hw1.out]
  refine cM (HT0.o _ kr) ?_
  rintro e w2 ⟨rfl,hw2⟩
  have HK3:Hid (Kp [] w1 (w2.alloc (.cells #[.bool vp,.int .i64 vn] 67))):=hw2.trans kA
  have hb3:(w2.alloc (.cells #[.bool vp,.int .i64 vn] 67)).heap[w2.heap.size]? = some (.cells #[.bool vp,.int .i64 vn] 67):=zab w2 _
  have hlt:=lL HB.o.2.2.1.1 hw2.size
  have HF:Hid (∀ wx,Kp [] (w2.alloc (.cells #[.bool vp,.int .i64 vn] 67)) wx->wx.heap[w2.heap.size]? = some (.cells #[.bool vp,.int .i64 vn] 67)/\wx.cell? ⟨w2.heap.size,0,none⟩=some (.bool vp)/\wx.cell? ⟨w2.heap.size,1,none⟩=some (.int .i64 vn)/\w2.heap.size < wx.heap.size):=fun wx hx=>by
   have e0:=zad hb3 hx
   have e1:=zaa e0
   exact⟨e0,e1.1,e1.2.1,e1.2.2.2.2⟩
  have Hne:Hid (w2.heap.size≠w.heap.size):=by unfold Hid;omega
  clear hw2 hb3 hlt
  go_upto_region 19 with fail
  generalize w2.alloc _=w3 at *
  generalize w2.heap.size=bv at *
  obtain⟨e1,e2,-⟩:=HI0.o.1
  obtain⟨e3,e4,-⟩:=HI1.o.1
  simp only at e1 e2 e3 e4
  have hJ3:=HJ.o.kp HK3.o
  have HT:Hid (∀ wx,Kp [] w3 wx->_):=HT1.o w3 HK3.o
  have hf0:=zc2 up un
  have hf1:=za9 up un
  obtain⟨-,f0,f1,f2⟩:=HF.o w3 kr
  have He:Hid (_/\_/\_/\_):=⟨e1,e2,e3,e4⟩
  clear hJ3 e1 e2 e3 e4
  cases up with
  | true=>
   rw[<-He.o.2.2.1,Bool.true_or,if_pos rfl] at HA
   go_wp2_with fail
   refine cM (HT.o _ kr) ?_
   rintro e w4 ⟨rfl,hw4⟩
   have hk4:=HK3.o.trans hw4
   clear f0 f1 f2
   obtain⟨⟨y0,y1,z0,z1,cl⟩,d0,d1,Q⟩:=endF1 HB.o HJ.o hk4 (.inl ⟨HA.o.symm,rfl⟩)
   clear hw4 hk4 hf1
   go_wp2_with fail
   exact bR (by simp[results,Tryz.results90,go_sem,d0,d1]) Q.o
  | false=>
   cases vp with
   | true=>
    rw[<-He.o.1,Bool.or_true,if_pos rfl] at HA
    go_wp2_with fail
    refine cM (HT.o _ kr) ?_
    rintro e w4 ⟨rfl,hw4⟩
    have hk4:=HK3.o.trans hw4
    clear f0 f1 f2
    obtain⟨-,f0,f1,f2⟩:=HF.o w4 hw4
    obtain⟨⟨y0,y1,z0,z1,cl⟩,d0,d1,Q⟩:=endF1 HB.o HJ.o hk4 (.inl ⟨HA.o.symm,rfl⟩)
    clear hw4 hk4 hf1
    go_wp2_with fail
    exact bR (by simp[results,Tryz.results90,go_sem,d0,d1]) Q.o
   | false=>
    have hb0:=HI0.o.2.2 He.o.1.symm
    have hb1:=HI1.o.2.2 He.o.2.2.1.symm
    have hn0:=He.o.2.1 rfl
    have hn1:=He.o.2.2.2 rfl
    rw[<-He.o.1,<-He.o.2.2.1,Bool.false_or,if_neg Bool.false_ne_true,<-hn0,<-hn1] at HA
    rw[<-hn0] at hb0
    rw[<-hn1] at hb1
    have HC:Hid (∀ wx,Kp [] w3 wx->_):=fun wx hx=>cM (HRk.o wx un vn hb1 hb0) (fun e w' q=>(⟨q.1,hx.trans q.2⟩:e=.returned (purV (rk un vn))/\Kp [] w3 w'))
    obtain⟨pp,pn,pf9,hp⟩:=zcx (rk un vn)
    rw[hp] at HC
    have Hpv:Hid (_/\Pur (rk un vn)):=⟨hp,HPu.o _ _⟩
    clear hp hn0 hn1 hb0 hb1
    go_wp2_with fail
    refine cM (HT.o _ kr) ?_
    rintro e w4 ⟨rfl,hw4⟩
    clear f0 f1 f2
    obtain⟨-,f0,f1,f2⟩:=HF.o w4 hw4
    have HR:Hid _:=fun wx (hx:Kp [] w3 wx)=>(HF.o wx hx).1
    have Hw4:=zh hw4
    clear hw4
    go_upto_region 21 with fail
    clear f0 f1 f2
    refine zao (C:=fun wx=>wx.heap[bv]? = some (.cells #[.bool false,.int .i64 vn] 67)) (by kernel_rfl) ?_
    refine qA 0 rfl ?_
    apply xI
    (intro wx hwx;go_simp <;> rfl)
    refine qA 1 rfl ?_
    apply xI
    (intro wx hwx;go_simp <;> rfl)
    refine qA 4 rfl ?_
    apply xI
    (intro wx hwx;go_simp <;> rfl)
    refine qA 5 rfl ?_
    apply xI
    (intro wx hwx;obtain⟨f0,f1,f2,f3,f4⟩:=zaa hwx;go_simp <;> rfl)
    refine oA 2 (HR.o _ Hw4.o.drew) rfl (fun K hK=>?_)
    go_simp
    refine cM (HT.o _ Hw4.o.drew) ?_
    rintro e8 w8 ⟨rfl,hw8⟩
    refine hK _ _ ?_
    clear hK K
    refine qA 3 rfl ?_
    apply xI
    (intro wx hwx;go_simp <;> rfl)
    refine oA 6 (HR.o _ hw8) rfl (fun K hK=>?_)
    go_simp
    refine cM (HC.o _ hw8) ?_
    rintro e9 w5 ⟨rfl,hw5⟩
    refine hK _ _ ?_
    clear hK K
    have hk5:=HK3.o.trans hw5
    obtain⟨mv,a1,o1,hwc⟩:=HB.o
    have hbz:=zad a1 hk5
    obtain⟨y0,y1,z0,z1,cl⟩:=zaa hbz
    obtain⟨d0,d1,_⟩:=zaa (zae hbz (.bool pp) (.int .i64 pn))
    have Q:Hid (zP X w g m act (.returned (.tuple #[.agg #[.bool pp,.int .i64 pn],.int .i64 pf9])) ((w5.setCell ⟨w.heap.size,0,none⟩ (.bool pp)).setCell ⟨w.heap.size,1,none⟩ (.int .i64 pn))):=by
     unfold Hid
     rw[<-HA.o,<-Hpv.o.1]
     have h9:=fin2 (HJ.o.kp hk5) (mv.trans (Mv.zk hk5)) ⟨lL o1.1 (hk5).size,o1.2⟩ (Nat.le_refl _) hwc (.bool pp) (.int .i64 pn)
     exact Hpv.o.2.act h9.1 h9.2
    have hC9:Hid _:=HR.o _ hw5
    have HC9:Hid (((w5.setCell ⟨w.heap.size,0,none⟩ (.bool pp)).setCell ⟨w.heap.size,1,none⟩ (.int .i64 pn)).heap[bv]? = some (.cells #[.bool false,.int .i64 vn] 67)):=(zb7 Hne.o).trans (HR.o _ hw5)
    clear a1 o1 mv hwc hbz hk5 hw5 hw8 hf0 hf1
    refine qA 7 rfl ?_
    apply xI
    (intro wx hwx;go_simp <;> rfl)
    refine qA 8 rfl ?_
    apply xI
    (intro wx hwx;go_simp <;> rfl)
    refine oA 9 hC9.out rfl (fun K hK=>?_)
    go_simp
    refine hK _ _ ?_
    clear hK K
    refine oA 10 HC9.o rfl (fun K hK=>?_)
    go_simp
    refine hK _ _ ?_
    clear hK K
    refine zag HC9.o (by kernel_rfl) ?_
    go_simp
    clear hC9
    go_wp2_with fail
    exact bR (by simp[results,Tryz.results90,go_sem,d0,d1]) Q.o
end
end Go.Proofs.YtkcmachfagcnaaaGreatDoor
