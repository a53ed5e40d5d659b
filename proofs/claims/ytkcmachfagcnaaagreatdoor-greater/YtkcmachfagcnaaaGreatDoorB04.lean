/- Part of Greater. -/
import Derived.Test.YtkcmachfagcnaaaGreatDoorB03
set_option maxHeartbeats 8000000
set_option maxRecDepth 100000
namespace Go.Proofs.YtkcmachfagcnaaaGreatDoor.C12
open Go.RowKit Go.Deep
theorem zit(ts:List ByteArray)(fs:List Fn)(p:Option Addr)(cap:Nat)(p':Option Addr)(cap':Nat)(w:World)(hS:ShIn w)(hT:zX w p ts)(hF:zF w p' fs):Calls Tryz.prog 20 #[.agg #[.slice p ts.length cap,.slice p' fs.length cap']] w fun e w'=>e=.returned (.bool (Cd.ok ⟨ts,fs⟩))/\Below w.heap.size w w':=by
 have hb0:=(Below.refl w.heap.size w).alloc (Nat.le_refl _) (.cells #[.slice p ts.length cap,.slice p' fs.length cap'] 25)
 have hx:CBox (w.alloc (.cells #[.slice p ts.length cap,.slice p' fs.length cap'] 25)) w.heap.size p ts.length cap p' fs.length cap':=(MapKept.heap_alloc w _).1
 have HS:Hid _:=hS.below hb0
 have HT:Hid _:=hT.below hb0
 have HF:Hid _:=hF.below hb0
 have hnt:=hT.len
 have hnf:=hF.len
 have Hb0:=zh hb0
 have Hx:=zh hx
 clear hS hT hF hb0 hx
 obtain⟨R,hR⟩:∃ R,R=Cd.ok ⟨ts,fs⟩:=⟨_,rfl⟩
 rw[<-hR]
 unfold Cd.ok at hR
 have HR0:Hid (R=(decide (ts.length<=65535) && (ts.all zbi && (decide (fs.length<=65535) && fs.all Fn.ok)))):=by
  unfold Hid
  rw[<-zbj,<-zbj]
  exact hR
 clear hR
 go_enter Tryz.func20,Tryz.ntmps20
 go_upto_region 1 with fail
 generalize w.alloc _=w0 at *
 obtain⟨x0,x1,x2⟩:=CBox.cells Hx.o
 by_cases hl:65535 < ts.length
 ·have hR:R=false:=by rw[HR0.o,decide_eq_false (by omega:¬ ts.length<=65535)];rfl
  subst hR
  have hl':(65535:Int) < ts.length:=by omega
  go_wp2
  go_ret
  exact⟨rfl,Hb0.o⟩
 have hl':¬ (65535:Int) < ts.length:=by omega
 by_cases hm:65535 < fs.length
 ·have hR:R=false:=by rw[HR0.o,decide_eq_false (by omega:¬ fs.length<=65535)];simp
  subst hR
  have hm':(65535:Int) < fs.length:=by omega
  go_wp2
  go_ret
  exact⟨rfl,Hb0.o⟩
 have hm':¬ (65535:Int) < fs.length:=by omega
 have HR1:Hid (R=(ts.all zbi && fs.all Fn.ok)):=by
  unfold Hid
  rw[HR0.o,decide_eq_true (by omega:ts.length<=65535),decide_eq_true (by omega:fs.length<=65535)]
  rfl
 go_wp2_with fail
 go_loopg [20] ts.length (fun g iv wr=>∃ i:Nat,iv=.int .i64 i/\i<=ts.length/\g=ts.length - i/\wr=w0/\Hid ((ts.drop i).all zbi=ts.all zbi))
 case atStart=>exact⟨0,rfl,by omega,by omega,rfl,rfl⟩
 case round=>
  obtain⟨i,rfl,hi1,rfl,hw,HR⟩:=hrel
  have hw:=hw.symm
  subst hw
  by_cases hi:i < ts.length
  ·have hi':(i:Int) < ts.length:=by omega
   have r1:=HR.o
   obtain⟨b,o,rfl,hbw,y0⟩:=HT.o.get i hi
   rw[zct zbi ts i hi] at r1
   generalize ts[i]'hi=x at *
   have Hall:=zh r1
   clear r1
   by_cases h2:200 < x.size
   ·have h2':(200:Int) < x.size:=by omega
    have hR:R=false:=by
     have:zbi x=false:=by unfold zbi;exact decide_eq_false (by omega)
     rw[HR1.o,<-Hall.o,this]
     rfl
    subst hR
    go_wp2
    go_ret
    exact⟨rfl,Hb0.o⟩
   ·have h2':¬ (200:Int) < x.size:=by omega
    have Hall2:Hid ((ts.drop (i+1)).all zbi=ts.all zbi):=by
     have:zbi x=true:=by unfold zbi;exact decide_eq_true (by omega)
     unfold Hid
     rw[<-Hall.o,this]
     rfl
    go_wp2
    go_roundg (ts.length - (i+1))
    case measure=>omega
    case rel=>exact⟨i+1,by first | rfl | (congr 1;omega) | go_num,by omega,rfl,rfl,Hall2⟩
  ·have hi':¬ (i:Int) < ts.length:=by omega
   have r1:=HR.o
   rw[zbk ts i hi] at r1
   have HR2:Hid (R=fs.all Fn.ok):=by
    unfold Hid
    rw[HR1.o,<-r1]
    rfl
   clear r1
   go_wp2_with fail
   go_loopg [31] fs.length (fun g iv wr=>∃ i:Nat,iv=.int .i64 i/\i<=fs.length/\g=fs.length - i/\Hid ((fs.drop i).all Fn.ok=fs.all Fn.ok/\Below w0.heap.size w0 wr))
   case atStart=>exact⟨0,rfl,by omega,by omega,rfl,Below.refl _ _⟩
   case round=>
    obtain⟨k,rfl,hk1,rfl,HR⟩:=hrel
    by_cases hk:k < fs.length
    ·have hk':(k:Int) < fs.length:=by omega
     obtain⟨r1,r3⟩:=HR.o
     obtain⟨b,o,q,qc,rfl,hbw,hfc,hIn⟩:=HF.o.get k hk
     have hfc2:=hfc.below hbw r3
     have hbr:=lL hbw r3.size
     rw[zct Fn.ok fs k hk] at r1
     generalize fs[k]'hk=f at *
     obtain⟨y0,y1,y2⟩:=hfc2
     have hba:Below w0.heap.size w0 (wr.alloc (.cells #[.int .i64 f.free,.int .i64 f.sA,.slice q f.ins.length qc] 47)):=r3.alloc r3.size _
     have hfb:FBox (wr.alloc (.cells #[.int .i64 f.free,.int .i64 f.sA,.slice q f.ins.length qc] 47)) wr.heap.size f q qc:=(MapKept.heap_alloc wr _).1
     have Hcall:Hid _:=zll f q qc (wr.alloc (.cells #[.int .i64 f.free,.int .i64 f.sA,.slice q f.ins.length qc] 47)) (HS.o.below hba) (hIn.below hba)
     have Hfb:=zh hfb
     have Hba:=zh hba
     have Hall:=zh r1
     clear r1 r3 hfc hIn hfb hba hbw
     go_upto_region 12 with fail
     clear y0 y1 y2 hbr x0 x1 x2
     generalize wr.alloc _=w3 at *
     obtain⟨z0,z1,z2,z3⟩:=FBox.cells Hfb.o
     go_wp2_with fail
     refine cM Hcall.o ?_
     rintro e1 w4 ⟨rfl,hb4⟩
     have Hk4:Hid _:=Below.then Hba.o hb4 (Nat.le_refl _)
     clear hb4 z0 z1 z2 z3
     generalize Fn.ok f=ok at *
     cases ok
     ·have hR:R=false:=by rw[HR2.o,<-Hall.o];rfl
      subst hR
      go_wp2
      go_ret
      exact⟨rfl,Below.trans Hb0.o (Hk4.o.mono (Below.size Hb0.o))⟩
     ·go_wp2
      go_roundg (fs.length - (k+1))
      case measure=>omega
      case rel=>exact⟨k+1,by first | rfl | (congr 1;omega) | go_num,by omega,rfl,Hall.o,Hk4.o⟩
    ·have hk':¬ (k:Int) < fs.length:=by omega
     obtain⟨r1,r3⟩:=HR.o
     rw[zbk fs k hk] at r1
     have hR:R=true:=by rw[HR2.o,<-r1];rfl
     subst hR
     go_wp2
     go_ret
     exact⟨rfl,Below.trans Hb0.o (r3.mono (Below.size Hb0.o))⟩
theorem zcj(f:List UInt8)(i:Nat)(h:f[i]? = none)(a:Int):argB f i a=[]:=by
 unfold argB
 rw[h]
theorem zu5(a:Int):argB [105] 0 a=big a 4:=by
 unfold argB
 simp
theorem zh2(f:List UInt8)(i:Nat)(h:f[i]? = some 110)(a:Int):argB f i a=big a 2:=by
 unfold argB
 rw[h]
 simp
theorem In.bytes_width(x:In)(h:x.ok=true)(k:Nat)(hk:x.op=(k:Int))(h26:k < 26):∃ j:Nat,kindOf k=(j:Int)/\j < 4/\(x.bytes.length:Int)=1+widthOf j/\0<=widthOf j/\widthOf j<=4:=by
 rw[x.bytes_of h,hk]
 rcases zdg k h26 with⟨h1,h2⟩ | ⟨h1,h2⟩ | ⟨h1,h2⟩ | ⟨h1,h2⟩
 ·refine⟨0,h1,by omega,?_,by decide,by decide⟩
  rw[h2,zcj [] 0 rfl,zcj [] 1 rfl]
  simp[zay,widthOf,widthT]
 ·refine⟨1,h1,by omega,?_,by decide,by decide⟩
  rw[h2,zu5,zcj [105] 1 rfl]
  simp[zay,widthOf,widthT]
 ·refine⟨2,h1,by omega,?_,by decide,by decide⟩
  rw[h2,zh2 [110] 0 rfl,zcj [110] 1 rfl]
  simp[zay,widthOf,widthT]
 ·refine⟨3,h1,by omega,?_,by decide,by decide⟩
  rw[h2,zh2 [110,110] 0 rfl,zh2 [110,110] 1 rfl]
  simp[zay,widthOf,widthT]
theorem zfg{α:Type}(g:α->List UInt8)(m:Nat):∀ (l:List α),(∀ x∈l,(g x).length<=m)->(l.flatMap g).length<=l.length * m
 | [],_=>by simp
 | x :: l,h=>by
  have h1:=h x (by simp)
  have h2:=zfg g m l (fun y hy=>h y (by simp[hy]))
  rw[List.flatMap_cons,lA,List.length_cons,Nat.add_mul]
  omega
theorem Fn.bytes_le(f:Fn)(h:f.ok=true):f.bytes.length<=589821:=by
 unfold Fn.ok at h
 rw[zbj] at h
 simp only[Bool.and_eq_true,decide_eq_true_eq] at h
 unfold Fn.bytes
 simp only[lA,zay]
 have:=zfg In.bytes 9 f.ins (fun x _=>x.bytes_len)
 omega
theorem Cd.bytes_le(c:Cd)(h:c.ok=true):c.bytes.length<=40000000000:=by
 unfold Cd.ok at h
 rw[zbj,zbj] at h
 simp only[Bool.and_eq_true,decide_eq_true_eq,List.all_eq_true] at h
 obtain⟨h1,h2,h3,h4⟩:=h
 unfold Cd.bytes
 simp only[lA,zay,List.length_cons,List.length_nil]
 have a:=zfg textB 201 c.texts (fun x hx=>by
  have:=h2 x hx
  unfold zbi at this
  have:=of_decide_eq_true this
  unfold textB
  rw[lA,zay]
  have:x.data.toList.length=x.size:=by rw[Array.length_toList];rfl
  omega)
 have b:=zfg Fn.bytes 589821 c.funs (fun f hf=>f.bytes_le (h4 f hf))
 omega
theorem zi6(t:ByteArray):(textB t).length=1+t.size:=by
 unfold textB
 rw[lA,zay,Array.length_toList]
 rfl
theorem Fn.bytes_len(f:Fn):f.bytes.length=6+(f.ins.flatMap In.bytes).length:=by
 unfold Fn.bytes
 simp only[lA,zay]
 omega
theorem Cd.bytes_len(ts:List ByteArray)(fs:List Fn):(Cd.bytes ⟨ts,fs⟩).length=7+((ts.flatMap textB).length+(fs.flatMap Fn.bytes).length):=by
 unfold Cd.bytes
 simp only[lA,zay,List.length_cons,List.length_nil]
 omega
theorem znz(ts:List ByteArray)(fs:List Fn)(p:Option Addr)(cap:Nat)(p':Option Addr)(cap':Nat)(w:World)(hS:ShIn w)(hW:WdIn w)(hT:zX w p ts)(hF:zF w p' fs)(hok:Cd.ok ⟨ts,fs⟩=true) :
  Calls Tryz.prog 21 #[.agg #[.slice p ts.length cap,.slice p' fs.length cap']] w fun e w'=>e=.returned (.int .i64 (Cd.bytes ⟨ts,fs⟩).length)/\Below w.heap.size w w':=by
 have hN:=Cd.bytes_le _ hok
 have hN2:=Cd.bytes_len ts fs
 generalize (Cd.bytes ⟨ts,fs⟩).length=N at *
 unfold Cd.ok at hok
 rw[zbj,zbj] at hok
 simp only[Bool.and_eq_true,decide_eq_true_eq] at hok
 obtain⟨o1,o2,o3,o4⟩:=hok
 have hb0:=(Below.refl w.heap.size w).alloc (Nat.le_refl _) (.cells #[.slice p ts.length cap,.slice p' fs.length cap'] 25)
 have hx:CBox (w.alloc (.cells #[.slice p ts.length cap,.slice p' fs.length cap'] 25)) w.heap.size p ts.length cap p' fs.length cap':=(MapKept.heap_alloc w _).1
 have HS:Hid _:=hS.below hb0
 have HW:Hid _:=hW.below hb0
 have HT:Hid _:=hT.below hb0
 have HF:Hid _:=hF.below hb0
 have Hb0:=zh hb0
 have Hx:=zh hx
 have O2:=zh o2
 have O4:=zh o4
 have HN2:=zh hN2
 clear hS hT hF hb0 hx hW hN2 o2 o4
 go_enter Tryz.func21,Tryz.ntmps21
 go_upto_region 2 with fail
 generalize w.alloc _=w0 at *
 obtain⟨x0,x1,x2⟩:=CBox.cells Hx.o
 go_wp2_with fail
 go_loopg [3,13] ts.length (fun g mv iv wr=>∃ (i m:Nat),mv=.int .i64 m/\iv=.int .i64 i/\i<=ts.length/\g=ts.length - i/\m<=N/\wr=w0/\Hid (m+(((ts.drop i).flatMap textB).length+(fs.flatMap Fn.bytes).length)=N/\(ts.drop i).all zbi=true))
 case atStart=>exact⟨0,7,rfl,rfl,by omega,by omega,by have:=HN2.o;omega,rfl,HN2.o.symm,O2.out⟩
 case round=>
  obtain⟨i,m,rfl,rfl,hi1,rfl,hm,hw,HR⟩:=hrel
  have hw:=hw.symm
  subst hw
  by_cases hi:i < ts.length
  ·have hi':(i:Int) < ts.length:=by omega
   obtain⟨r1,r2⟩:=HR.o
   obtain⟨b,o,rfl,hbw,y0⟩:=HT.o.get i hi
   rw[zct zbi ts i hi,Bool.and_eq_true] at r2
   rw[zdh textB ts i hi,lA,zi6] at r1
   generalize ts[i]'hi=x at *
   have h2:x.size<=200:=by
    have:=of_decide_eq_true r2.1
    omega
   have hm2:m+(1+x.size)<=N:=by omega
   have Q:Hid ((m+(1+x.size))+(((ts.drop (i+1)).flatMap textB).length+(fs.flatMap Fn.bytes).length)=N/\_):=⟨by omega,r2.2⟩
   clear r1 r2
   go_wp2
   go_roundg (ts.length - (i+1))
   case measure=>omega
   case rel=>exact⟨i+1,m+(1+x.size),by first | rfl | (congr 1;omega) | go_num,by first | rfl | (congr 1;omega) | go_num,by omega,rfl,hm2,rfl,Q⟩
  ·have hi':¬ (i:Int) < ts.length:=by omega
   obtain⟨r1,r2⟩:=HR.o
   rw[zbk ts i hi] at r1
   have Q0:Hid (m+(fs.flatMap Fn.bytes).length=N):=by
    unfold Hid
    simp only[List.flatMap_nil,List.length_nil] at r1
    omega
   clear r1 r2
   go_wp2_with fail
   go_loopg [3,26] fs.length (fun g mv iv wr=>∃ (k m:Nat),mv=.int .i64 m/\iv=.int .i64 k/\k<=fs.length/\g=fs.length - k/\m<=N/\Hid (m+((fs.drop k).flatMap Fn.bytes).length=N/\(fs.drop k).all Fn.ok=true/\Below w0.heap.size w0 wr))
   case atStart=>exact⟨0,m,rfl,rfl,by omega,by omega,hm,Q0.o,O4.out,Below.refl _ _⟩
   case round=>
    clear Q0 hm
    obtain⟨k,m,rfl,rfl,hk1,rfl,hm,HR⟩:=hrel
    by_cases hk:k < fs.length
    ·have hk':(k:Int) < fs.length:=by omega
     obtain⟨r1,r2,r3⟩:=HR.o
     obtain⟨b,o,q,qc,rfl,hbw,hfc,hIn⟩:=HF.o.get k hk
     have hfc2:=hfc.below hbw r3
     have hbr:=lL hbw r3.size
     rw[zct Fn.ok fs k hk,Bool.and_eq_true] at r2
     rw[zdh Fn.bytes fs k hk,lA,Fn.bytes_len] at r1
     generalize fs[k]'hk=f at *
     obtain⟨y0,y1,y2⟩:=hfc2
     have hba:Below w0.heap.size w0 (wr.alloc (.cells #[.int .i64 f.free,.int .i64 f.sA,.slice q f.ins.length qc] 47)):=r3.alloc r3.size _
     have hfb:FBox (wr.alloc (.cells #[.int .i64 f.free,.int .i64 f.sA,.slice q f.ins.length qc] 47)) wr.heap.size f q qc:=(MapKept.heap_alloc wr _).1
     have HI:Hid _:=hIn.below hba
     have hnl:=hIn.len
     have Hfb:=zh hfb
     have Hba:=zh hba
     have hf:=r2.1
     unfold Fn.ok at hf
     rw[zbj] at hf
     simp only[Bool.and_eq_true,decide_eq_true_eq] at hf
     have hfl:=hf.2.2.1
     have HAll:=zh hf.2.2.2
     have HRest:=zh r2.2
     have hm6:m+6<=N:=by omega
     have Q:Hid ((m+6)+((f.ins.flatMap In.bytes).length+((fs.drop (k+1)).flatMap Fn.bytes).length)=N):=by unfold Hid;omega
     clear r1 r2 r3 hfc hIn hfb hba hbw hf
     go_upto_region 10 with fail
     clear y0 y1 y2 hbr x0 x1 x2
     generalize wr.alloc _=w3 at *
     obtain⟨z0,z1,z2,z3⟩:=FBox.cells Hfb.o
     go_wp2_with fail
     go_loopg [3,35] f.ins.length (fun g mv iv wr=>∃ (j m:Nat),mv=.int .i64 m/\iv=.int .i64 j/\j<=f.ins.length/\g=f.ins.length - j/\m<=N/\Hid (m+(((f.ins.drop j).flatMap In.bytes).length+((fs.drop (k+1)).flatMap Fn.bytes).length)=N/\(f.ins.drop j).all In.ok=true/\Below w3.heap.size w3 wr))
     case atStart=>exact⟨0,m+6,by first | rfl | (congr 1;omega) | go_num,rfl,by omega,by omega,hm6,Q.o,HAll.o,Below.refl _ _⟩
     case round=>
      clear Q hm6 hm
      obtain⟨j,m,rfl,rfl,hj1,rfl,hm,HR⟩:=hrel
      clear z0 z1 z2 z3
      by_cases hj:j < f.ins.length
      ·have hj':(j:Int) < f.ins.length:=by omega
       obtain⟨r1,r2,r3⟩:=HR.o
       obtain⟨b2,o2,hq,hbw,y0,y1,y2⟩:=HI.o.get j hj
       subst hq
       rw[zct In.ok f.ins j hj,Bool.and_eq_true] at r2
       rw[zdh In.bytes f.ins j hj,lA] at r1
       generalize f.ins[j]'hj=x at *
       obtain⟨kk,hkk,hk26⟩:=zc8 (In.ok_op r2.1)
       obtain⟨jj,hjj,hj4,hlen,hw0,hw4⟩:=In.bytes_width x r2.1 kk hkk hk26
       obtain⟨op,a,b'⟩:=x
       simp only at hkk
       subst hkk
       have hk1:=r3.alloc r3.size (.cells #[.int .i64 (kk:Int),.int .i64 a,.int .i64 b'] 44)
       have hall:=Below.then Hba.o hk1 (Nat.le_refl _)
       have v0:=(r3.cell (p:=⟨b2,o2+j * 3,none⟩) hbw).trans y0
       have v1:=(r3.cell (p:=⟨b2,o2+j * 3+1,none⟩) hbw).trans y1
       have v2:=(r3.cell (p:=⟨b2,o2+j * 3+2,none⟩) hbw).trans y2
       have hbr:=lL hbw r3.size
       obtain⟨c0,-,-⟩:=(ShIn.below HS.o hall).cells kk hk26
       have c1:=(WdIn.below HW.o hall).cell jj hj4
       rw[hjj] at c0
       generalize widthOf jj=wd at *
       have hbl:(In.bytes ⟨kk,a,b'⟩).length=(1+wd).toNat:=by omega
       rw[hbl] at r1
       have hm2:m+(1+wd).toNat<=N:=by omega
       have hkk':(kk:Int) < 26:=by omega
       have hjj':(jj:Int) < 4:=by omega
       have Q:Hid ((m+(1+wd).toNat)+(((f.ins.drop (j+1)).flatMap In.bytes).length+((fs.drop (k+1)).flatMap Fn.bytes).length)=N/\_/\_):=⟨by omega,r2.2,hk1⟩
       clear r1 r2 r3 y0 y1 y2 hk1 hall hbw hlen hbl
       go_wp2
       go_roundg (f.ins.length - (j+1))
       case measure=>omega
       case rel=>exact⟨j+1,m+(1+wd).toNat,by first | rfl | (congr 1;omega) | go_num,by first | rfl | (congr 1;omega) | go_num,by omega,rfl,hm2,Q⟩
      ·have hj':¬ (j:Int) < f.ins.length:=by omega
       obtain⟨r1,r2,r3⟩:=HR.o
       rw[zbk f.ins j hj] at r1
       have Q:Hid (m+((fs.drop (k+1)).flatMap Fn.bytes).length=N/\_/\_):=⟨by simp only[List.flatMap_nil,List.length_nil] at r1;omega,HRest.o,Below.then Hba.o r3 (Nat.le_refl _)⟩
       clear r1 r2 r3
       go_wp2
       go_roundg (fs.length - (k+1))
       case measure=>omega
       case rel=>exact⟨k+1,m,rfl,by first | rfl | (congr 1;omega) | go_num,by omega,rfl,hm,Q⟩
    ·have hk':¬ (k:Int) < fs.length:=by omega
     obtain⟨r1,r2,r3⟩:=HR.o
     rw[zbk fs k hk] at r1
     simp only[List.flatMap_nil,List.length_nil] at r1
     obtain rfl:m=N:=by omega
     clear r1
     have R3:=zh r3
     clear r3
     go_wp2
     go_ret
     exact⟨rfl,Below.trans Hb0.o (R3.out.mono (Below.size Hb0.o))⟩
structure FW(B wp:Nat)(w w':World):Prop where
 os:w'.os=w.os
 tape:w'.tape=w.tape
 output:w'.output=w.output
 size:w.heap.size<=w'.heap.size
 block:∀ k,k < w.heap.size->(k < B\/(k≠wp/\∀ cs fr,w.heap[k]?≠some (.cells cs 5 fr)))->w'.heap[k]? = w.heap[k]?
theorem FW.refl(B wp:Nat)(w:World):FW B wp w w:=⟨rfl,rfl,rfl,Nat.le_refl _,fun _ _ _=>rfl⟩
theorem FW.trans{B wp:Nat}{a b c:World}(h:FW B wp a b)(k:FW B wp b c):FW B wp a c:=
 ⟨k.os.trans h.os,k.tape.trans h.tape,k.output.trans h.output,Nat.le_trans h.size k.size,fun i hi hx=>by
  have e:=h.block i hi hx
  exact(k.block i (lL hi h.size) (by rw[e];exact hx)).trans e⟩
theorem FW.alloc{B wp:Nat}{a w:World}(h:FW B wp a w)(o:Obj):FW B wp a (w.alloc o):=
 ⟨h.os,h.tape,h.output,Nat.le_trans h.size (by simp),fun i hi hx=>(Below.heap_alloc _ _ _ (lL hi h.size)).trans (h.block i hi hx)⟩
theorem FW.below{B wp:Nat}{w w':World}(h:FW B wp w w')(hB:B<=w.heap.size):Below B w w':=
 ⟨h.os,h.tape,h.output,h.size,fun k hk=>h.block k (lL hk hB) (.inl hk)⟩
theorem FW.box{B wp:Nat}{w w':World}(h:FW B wp w w'){k:Nat}{cs:Array Value}{t:TypeId}{fr:Nat×Nat}(hb:w.heap[k]? = some (.cells cs t fr))(ht:t≠5)(hk:k≠wp):w'.heap[k]? = some (.cells cs t fr):=by
 have hlt:=(sz hb)
 refine(h.block k hlt (.inr ⟨hk,fun cs' fr' e=>?_⟩)).trans hb
 rw[hb] at e
 simp only[Option.some.injEq,Obj.cells.injEq] at e
 exact ht e.2.1
structure Wr(B wp:Nat)(w:World)(l:List UInt8):Prop where
 is:∃ v,w.heap[wp]? = some (.cells #[v] 74)/\w.ownsRow B 5 1 v l.length (byteCells l)
 le:B<=w.heap.size
theorem zd7{w w':World}{B:Nat}{v:Value}{n:Nat}{xs:List Value}(h:w.ownsRow B 5 1 v n xs)(hk:∀ g cs,v.ownBlock=some g->w.heap[g]? = some (.cells cs 5 (0,0))->w'.heap[g]? = w.heap[g]?):w'.ownsRow B 5 1 v n xs:=by
 refine⟨h.1,?_⟩
 rcases h.2 with h0 | ⟨g,cap,cur,rfl,h1,h2,h3⟩
 ·exact .inl h0
 ·exact .inr ⟨g,cap,cur,rfl,h1,(hk g cur rfl h2).trans h2,h3⟩
theorem zpy{w:World}{B:Nat}{v:Value}{n:Nat}{xs:List Value}(h:w.ownsRow B 5 1 v n xs){g:Nat}(hg:v.ownBlock=some g):B<=g/\∃ cs,w.heap[g]? = some (.cells cs 5 (0,0)):=by
 rcases h.2 with⟨rfl,_⟩ | ⟨g',cap,cur,rfl,h1,h2,_⟩
 ·cases hg
 ·obtain rfl:g'=g:=by simpa [Value.ownBlock] using hg
  exact⟨h1,cur,h2⟩
theorem Wr.alloc{B wp:Nat}{w:World}{l:List UInt8}(h:Wr B wp w l)(o:Obj):Wr B wp (w.alloc o) l:=by
 obtain⟨⟨v,h1,h2⟩,h3⟩:=h
 refine⟨⟨v,(Below.heap_alloc _ _ _ (sz h1)).trans h1,?_⟩,by simp;omega⟩
 exact zd7 h2 fun g cs _ hg=>Below.heap_alloc _ _ _ (sz hg)
theorem zos{B wp:Nat}{w w1:World}{v v':Value}{n n':Nat}{xs:List Value}{l':List UInt8}(h1:w.heap[wp]? = some (.cells #[v] 74))(h2:w.ownsRow B 5 1 v n xs)(hB:B<=w.heap.size)(hwp:B<=wp)
  (k1:w1.ownsRow B 5 1 v' n' (byteCells l')) (hn:n'=l'.length) (kg:w.grownBy w1 v.ownBlock):Wr B wp (w1.setCell ⟨wp,0,none⟩ v') l'/\FW B wp w (w1.setCell ⟨wp,0,none⟩ v'):=by
 subst hn
 have hne:∀ g,v.ownBlock=some g->g≠wp:=by
  intro g hg e
  obtain⟨_,cs,hc⟩:=zpy h2 hg
  rw[e,h1] at hc
  simp at hc
 have hlt:=(sz h1)
 have w1p:=(kg.block wp hlt (fun e=>hne wp e.symm rfl)).trans h1
 constructor
 ·refine⟨⟨v',?_,?_⟩,?_⟩
  ·simp[World.setCell,Array.getElem?_modify,w1p]
  ·refine zd7 k1 fun g cs _ hg=>?_
   refine Below.heap_setCell _ _ _ _ ?_
   intro e
   subst e
   rw[w1p] at hg
   simp at hg
  ·simp[World.setCell]
   exact Nat.le_trans hB kg.size
 ·refine⟨kg.os,kg.tape,kg.output,by simp[World.setCell];exact kg.size,fun k hk hx=>?_⟩
  have hkwp:k≠wp:=by
   rcases hx with h | h
   ·omega
   ·exact h.1
  refine(Below.heap_setCell _ _ _ _ hkwp).trans (kg.block k hk ?_)
  intro e
  obtain⟨hg1,cs,hc⟩:=zpy h2 e.symm
  rcases hx with h | h
  ·omega
  ·exact h.2 _ _ hc
theorem zgp{w:World}{B:Nat}{v:Value}{n:Nat}{xs:List Value}(h:w.ownsRow B 5 1 v n xs):∃ p m c,v=.slice p m c:=by
 rcases h.2 with⟨rfl,_⟩ | ⟨g',cap,cur,rfl,_⟩
 ·exact⟨_,_,_,rfl⟩
 ·exact⟨_,_,_,rfl⟩
theorem zki{B wp:Nat}{w w1:World}{v:Value}{n:Nat}{xs:List Value}(h1:w.heap[wp]? = some (.cells #[v] 74))(h2:w.ownsRow B 5 1 v n xs)(kg:w.grownBy w1 v.ownBlock):w1.cell? ⟨wp,0,none⟩=some v/\w1.frozen? ⟨wp,0,none⟩=false/\wp < w1.heap.size:=by
 have hlt:=(sz h1)
 have e:w1.heap[wp]? = some (.cells #[v] 74):=(kg.block wp hlt (fun e=>by
  obtain⟨_,cs,hc⟩:=zpy h2 e.symm
  rw[h1] at hc
  simp at hc)).trans h1
 refine⟨?_,?_,lL hlt kg.size⟩ <;> simp[World.cell?,World.frozen?,e]
theorem big2(v:Int):big v 2=[UInt8.ofNat (v / 256 % 256).toNat,UInt8.ofNat (v % 256).toNat]:=rfl
theorem big1(v:Int):big v 1=[UInt8.ofNat (v % 256).toNat]:=rfl
theorem zo0(v:Int)(h:0<=v)(h2:v < 256):((UInt8.ofNat v.toNat).toNat:Int)=v:=by
 simp
 omega
theorem zx0(v:Int):byteCells (big v 2)=[.int .u8 (v / 256 % 256),.int .u8 (v % 256)]:=by
 rw[big2]
 simp only[byteCells,List.map_cons,List.map_nil]
 rw[zo0 _ (by omega) (by omega),zo0 _ (by omega) (by omega)]
theorem zx1(v:Int):byteCells (big v 1)=[.int .u8 (v % 256)]:=by
 rw[big1]
 simp only[byteCells,List.map_cons,List.map_nil]
 rw[zo0 _ (by omega) (by omega)]
theorem zi2(B wp:Nat)(w:World)(l:List UInt8)(s:ByteArray)(h:Wr B wp w l)(hwp:B<=wp)(hl:l.length+s.size<=1000000000) :
  Calls Tryz.prog 29 #[.pointer (some ⟨wp,0,none⟩),.string s] w fun e w'=>e=.returned (.tuple #[])/\Wr B wp w' (l++s.data.toList)/\FW B wp w w':=by
 obtain⟨⟨v,h1,h2⟩,hB⟩:=h
 have c0:w.cell? ⟨wp,0,none⟩=some v:=by simp[World.cell?,h1]
 have hlt:=(sz h1)
 obtain⟨i0,hi0,hz0,hz1,hz2⟩:=zap zju
 go_enter Tryz.func29,Tryz.ntmps29
 go_wp2_with (at_builtin;refine Lib.wpList_append_own_string _ rfl _ _ 62 9 rfl B 5 i0 Tryz.underlying62 Tryz.underlying9 hi0 hz0 hz1 hz2 _ _ _ rfl h2 s rfl (by unfold maxLen;omega) (by omega) hB ?_)
 intro v' w1 k1 kg _
 have Q:Hid _:=zos (l':=l++s.data.toList) h1 h2 hB hwp (by rw[zd1];exact k1) (by rw[lA,Array.length_toList];rfl) kg
 obtain⟨d0,d1,d2⟩:=zki h1 h2 kg
 obtain⟨p,m,c,rfl⟩:=zgp k1
 clear k1 kg c0
 go_wp2
 go_end0
 exact⟨rfl,Q.o⟩
theorem zlv(B wp:Nat)(w:World)(l:List UInt8)(n:Int)(h:Wr B wp w l)(hwp:B<=wp)(hl:l.length+1<=1000000000) :
  Calls Tryz.prog 31 #[.pointer (some ⟨wp,0,none⟩),.int .i64 n] w fun e w'=>e=.returned (.tuple #[])/\Wr B wp w' (l++big n 1)/\FW B wp w w':=by
 have hA:=h.alloc (.cells #[.int .u8 (n % 256)] 5)
 have F0:Hid _:=(FW.refl B wp w).alloc (.cells #[.int .u8 (n % 256)] 5)
 obtain⟨⟨v,h1,h2⟩,hB⟩:=hA
 have c0:w.cell? ⟨wp,0,none⟩=some v:=by
  obtain⟨⟨v2,h3,h4⟩,hB⟩:=h
  have:=(Below.heap_alloc w (.cells #[.int .u8 (n % 256)] 5) _ (sz h3)).symm.trans h1
  simp[World.cell?,this]
 have hnews:(w.alloc (.cells #[.int .u8 (n % 256)] 5)).heap[w.heap.size]? = some (.cells #[.int .u8 (n % 256)] 5):=(MapKept.heap_alloc w _).1
 obtain⟨i0,hi0,hz0,hz1,hz2⟩:=zap zju
 go_enter Tryz.func31,Tryz.ntmps31
 go_wp2_with (at_builtin;refine wpList_append_own_at _ rfl _ _ 62 rfl B 5 i0 (.int .u8 0) 1 1 Tryz.underlying62 hi0 hz0 hz1 hz2 rfl (by omega) _ _ _ rfl h2 ⟨w.heap.size,0,none⟩ 1 1 [.int .u8 (n % 256)] rfl rfl (World.news_of_block hnews) (by simp[Value.oneCell']) (by unfold maxLen;omega) (by omega) hB ?_)
 intro v' w1 k1 kg _ _
 have Q:Hid _:=zos (l':=l++big n 1) h1 h2 hB hwp (by rw[zd1,zx1];exact k1) (by rw[lA];rfl) kg
 obtain⟨d0,d1,d2⟩:=zki h1 h2 kg
 obtain⟨p,m,c,rfl⟩:=zgp k1
 clear k1 kg c0
 go_wp2
 go_end0
 exact⟨rfl,Q.o.1,F0.out.trans Q.o.2⟩
theorem zcd(B wp:Nat)(w:World)(l:List UInt8)(n:Int)(h:Wr B wp w l)(hwp:B<=wp)(hl:l.length+2<=1000000000) :
  Calls Tryz.prog 30 #[.pointer (some ⟨wp,0,none⟩),.int .i64 n] w fun e w'=>e=.returned (.tuple #[])/\Wr B wp w' (l++big n 2)/\FW B wp w w':=by
 have hA:=h.alloc (.cells #[.int .u8 (n / 256 % 256),.int .u8 (n % 256)] 5)
 have F0:Hid _:=(FW.refl B wp w).alloc (.cells #[.int .u8 (n / 256 % 256),.int .u8 (n % 256)] 5)
 obtain⟨⟨v,h1,h2⟩,hB⟩:=hA
 have c0:w.cell? ⟨wp,0,none⟩=some v:=by
  obtain⟨⟨v2,h3,h4⟩,hB⟩:=h
  have:=(Below.heap_alloc w (.cells #[.int .u8 (n / 256 % 256),.int .u8 (n % 256)] 5) _ (sz h3)).symm.trans h1
  simp[World.cell?,this]
 have hnews:(w.alloc (.cells #[.int .u8 (n / 256 % 256),.int .u8 (n % 256)] 5)).heap[w.heap.size]? = some (.cells #[.int .u8 (n / 256 % 256),.int .u8 (n % 256)] 5):=(MapKept.heap_alloc w _).1
 obtain⟨i0,hi0,hz0,hz1,hz2⟩:=zap zju
 go_enter Tryz.func30,Tryz.ntmps30
 go_wp2_with (at_builtin;refine wpList_append_own_at _ rfl _ _ 62 rfl B 5 i0 (.int .u8 0) 1 1 Tryz.underlying62 hi0 hz0 hz1 hz2 rfl (by omega) _ _ _ rfl h2 ⟨w.heap.size,0,none⟩ 2 2 [.int .u8 (n / 256 % 256),.int .u8 (n % 256)] rfl rfl (World.news_of_block hnews) (by simp[Value.oneCell']) (by unfold maxLen;omega) (by omega) hB ?_)
 intro v' w1 k1 kg _ _
 have Q:Hid _:=zos (l':=l++big n 2) h1 h2 hB hwp (by rw[zd1,zx0];exact k1) (by rw[lA];rfl) kg
 obtain⟨d0,d1,d2⟩:=zki h1 h2 kg
 obtain⟨p,m,c,rfl⟩:=zgp k1
 clear k1 kg c0
 go_wp2
 go_end0
 exact⟨rfl,Q.o.1,F0.out.trans Q.o.2⟩
theorem ShIn.fw{B wp:Nat}{w w':World}(h:ShIn w)(hf:FW B wp w w')(hB:3 < B):ShIn w':=h.of_block (hf.block 3 h.lt (.inl hB))
theorem big4(a:Int):big a 4=big (a / 65536) 2++big a 2:=by
 rw[big2,big2]
 show [UInt8.ofNat (a / 256 / 256 / 256 % 256).toNat,UInt8.ofNat (a / 256 / 256 % 256).toNat,UInt8.ofNat (a / 256 % 256).toNat,UInt8.ofNat (a % 256).toNat]=_
 rw[show a / 256 / 256=a / 65536 by omega]
 rfl
def IBox(w:World)(b:Nat)(x:In):Prop:=w.heap[b]? = some (.cells #[.int .i64 x.op,.int .i64 x.a,.int .i64 x.b] 44)
theorem IBox.cells{w:World}{b:Nat}{x:In}(h:IBox w b x):w.cell? ⟨b,0,none⟩=some (.int .i64 x.op)/\w.cell? ⟨b,1,none⟩=some (.int .i64 x.a)/\w.cell? ⟨b,2,none⟩=some (.int .i64 x.b)/\b < w.heap.size:=by
 have h2:=(sz h)
 unfold IBox at h
 refine⟨?_,?_,?_,h2⟩ <;> simp[World.cell?,h]
theorem zr8(B wp:Nat)(w:World)(l:List UInt8)(k:Nat)(hk:k < 26)(a b:Int)(hx:In.ok ⟨k,a,b⟩=true)(hS:ShIn w)(h:Wr B wp w l)(hwp:B<=wp)(hpl:wp < w.heap.size)(hB1:3 < B)(hl:l.length+(In.bytes ⟨k,a,b⟩).length<=1000000000) :
  Calls Tryz.prog 64 #[.pointer (some ⟨wp,0,none⟩),.agg #[.int .i64 k,.int .i64 a,.int .i64 b]] w fun e w'=>e=.returned (.tuple #[])/\Wr B wp w' (l++In.bytes ⟨k,a,b⟩)/\FW B wp w w':=by
 rw[In.bytes_of _ hx] at hl ⊢
 clear hx
 replace hl:l.length+(big k 1++(argB (form k) 0 a++argB (form k) 1 b)).length<=1000000000:=hl
 show Calls Tryz.prog 64 _ w fun e w'=>_/\Wr B wp w' (l++(big k 1++(argB (form k) 0 a++argB (form k) 1 b)))/\_
 obtain⟨R,hR⟩:∃ R,R=l++(big k 1++(argB (form k) 0 a++argB (form k) 1 b)):=⟨_,rfl⟩
 rw[<-hR]
 have hk':(k:Int) < 26:=by omega
 have F0:FW B wp w (w.alloc (.cells #[.int .i64 k,.int .i64 a,.int .i64 b] 44)):=(FW.refl B wp w).alloc _
 have hS0:=hS.fw F0 hB1
 have hx0:IBox (w.alloc (.cells #[.int .i64 k,.int .i64 a,.int .i64 b] 44)) w.heap.size ⟨k,a,b⟩:=(MapKept.heap_alloc w _).1
 have hne:w.heap.size≠wp:=by omega
 have Hne:=zh hne
 have h0:=h.alloc (.cells #[.int .i64 k,.int .i64 a,.int .i64 b] 44)
 simp only[lA,zay] at hl
 have Hc:Hid _:=zlv B wp _ l k h0 hwp (by omega)
 have HF0:=zh F0
 have HS0:=zh hS0
 have Hx0:=zh hx0
 have HR:=zh hR
 clear F0 hS0 hx0 hne h0 hR hS h hpl
 go_enter Tryz.func64,Tryz.ntmps64
 go_upto_region 1 with fail
 generalize w.alloc _=w0 at *
 obtain⟨x0,x1,x2,x3⟩:=IBox.cells Hx0.o
 go_wp2_with fail
 refine cM Hc.o ?_
 rintro e1 w1 ⟨rfl,W1,f1⟩
 have Hx1:Hid (IBox w1 w.heap.size ⟨k,a,b⟩):=f1.box Hx0.o (by decide) Hne.o
 have HS1:ShIn w1:=ShIn.fw HS0.o f1 hB1
 have HF1:Hid _:=FW.trans HF0.o f1
 have HW1:=zh W1
 clear x0 x1 x2 x3 f1 W1
 obtain⟨x0,x1,x2,x3⟩:=IBox.cells Hx1.o
 obtain⟨c0,-,-⟩:=HS1.cells k hk
 rcases zdg k hk with⟨h1,h2⟩ | ⟨h1,h2⟩ | ⟨h1,h2⟩ | ⟨h1,h2⟩
 ·rw[h1] at c0
  rw[h2,zcj [] 0 rfl,zcj [] 1 rfl] at hl HR
  clear h1 h2
  simp only[List.length_nil] at hl
  go_wp2
  go_end0
  refine⟨rfl,?_,HF1.o⟩
  rw[HR.o]
  have:=HW1.o
  simpa only[List.append_assoc,List.append_nil] using this
 ·rw[h1] at c0
  rw[h2,zu5,zcj [105] 1 rfl] at hl HR
  clear h1 h2
  simp only[zay,List.length_nil] at hl
  have Hc:Hid _:=zcd B wp w1 (l++big k 1) (a / 65536) HW1.o hwp (by simp only[lA,zay];omega)
  go_wp2_with fail
  refine cM Hc.o ?_
  rintro e1 w2 ⟨rfl,W,f⟩
  have Hx2:Hid (IBox w2 w.heap.size ⟨k,a,b⟩):=f.box Hx1.o (by decide) Hne.o
  have HF2:Hid _:=FW.trans HF1.o f
  have HW2:=zh W
  clear x0 x1 x2 x3 W f
  obtain⟨x0,x1,x2,x3⟩:=IBox.cells Hx2.o
  have Hc:Hid _:=zcd B wp w2 ((l++big k 1)++big (a / 65536) 2) a HW2.o hwp (by simp only[lA,zay];omega)
  go_wp2_with fail
  refine cM Hc.o ?_
  rintro e1 w3 ⟨rfl,W,f⟩
  have Hx3:Hid (IBox w3 w.heap.size ⟨k,a,b⟩):=f.box Hx2.o (by decide) Hne.o
  have HF3:Hid _:=FW.trans HF2.o f
  have HW3:=zh W
  clear x0 x1 x2 x3 W f
  obtain⟨x0,x1,x2,x3⟩:=IBox.cells Hx3.o
  go_wp2
  go_end0
  refine⟨rfl,?_,HF3.o⟩
  rw[HR.o,big4]
  have:=HW3.o
  simpa only[List.append_assoc,List.append_nil] using this
 ·rw[h1] at c0
  rw[h2,zh2 [110] 0 rfl,zcj [110] 1 rfl] at hl HR
  clear h1 h2
  simp only[zay,List.length_nil] at hl
  have Hc:Hid _:=zcd B wp w1 (l++big k 1) a HW1.o hwp (by simp only[lA,zay];omega)
  go_wp2_with fail
  refine cM Hc.o ?_
  rintro e1 w2 ⟨rfl,W,f⟩
  have Hx2:Hid (IBox w2 w.heap.size ⟨k,a,b⟩):=f.box Hx1.o (by decide) Hne.o
  have HF2:Hid _:=FW.trans HF1.o f
  have HW2:=zh W
  clear x0 x1 x2 x3 W f
  obtain⟨x0,x1,x2,x3⟩:=IBox.cells Hx2.o
  go_wp2
  go_end0
  refine⟨rfl,?_,HF2.o⟩
  rw[HR.o]
  have:=HW2.o
  simpa only[List.append_assoc,List.append_nil] using this
 ·rw[h1] at c0
  rw[h2,zh2 [110,110] 0 rfl,zh2 [110,110] 1 rfl] at hl HR
  clear h1 h2
  simp only[zay] at hl
  have Hc:Hid _:=zcd B wp w1 (l++big k 1) a HW1.o hwp (by simp only[lA,zay];omega)
  go_wp2_with fail
  refine cM Hc.o ?_
  rintro e1 w2 ⟨rfl,W,f⟩
  have Hx2:Hid (IBox w2 w.heap.size ⟨k,a,b⟩):=f.box Hx1.o (by decide) Hne.o
  have HF2:Hid _:=FW.trans HF1.o f
  have HW2:=zh W
  clear x0 x1 x2 x3 W f
  obtain⟨x0,x1,x2,x3⟩:=IBox.cells Hx2.o
  have Hc:Hid _:=zcd B wp w2 ((l++big k 1)++big a 2) b HW2.o hwp (by simp only[lA,zay];omega)
  go_wp2_with fail
  refine cM Hc.o ?_
  rintro e1 w3 ⟨rfl,W,f⟩
  have Hx3:Hid (IBox w3 w.heap.size ⟨k,a,b⟩):=f.box Hx2.o (by decide) Hne.o
  have HF3:Hid _:=FW.trans HF2.o f
  have HW3:=zh W
  clear x0 x1 x2 x3 W f
  obtain⟨x0,x1,x2,x3⟩:=IBox.cells Hx3.o
  go_wp2
  go_end0
  refine⟨rfl,?_,HF3.o⟩
  rw[HR.o]
  have:=HW3.o
  simpa only[List.append_assoc,List.append_nil] using this
end Go.Proofs.YtkcmachfagcnaaaGreatDoor.C12
