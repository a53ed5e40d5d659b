/- Part of Greater. -/
import Derived.Test.YtkcmachfagcnaaaGreatDoorB11
set_option maxHeartbeats 8000000
set_option maxRecDepth 100000
namespace Go.Proofs.YtkcmachfagcnaaaGreatDoor.C12
open Go.RowKit Go.Deep
theorem zuj(c:Cd)(p:Option Addr)(cap:Nat)(p':Option Addr)(cap':Nat)(w:World)(hS:ShIn w)(hG:SgIn w)(hF:zF w p' c.funs)(hok:c.ok=true) :
  Calls Tryz.prog 12 #[.agg #[.slice p c.texts.length cap,.slice p' c.funs.length cap']] w fun e w'=>e=.returned (.agg #[.int .i64 c.chk.1,.int .i64 c.chk.2])/\Below w.heap.size w w':=by
 obtain⟨ts,fs⟩:=c
 obtain⟨k1,k2,k3⟩:=Cd.ok_parts hok
 simp only at *
 have hn1:ts.length<=65535:=by have:=zal k1;omega
 have hn2:fs.length<=65535:=by have:=zal k2;omega
 obtain⟨w0,hw0⟩:∃ w0,w0=(w.alloc (.cells #[.slice p ts.length cap,.slice p' fs.length cap'] 25)).alloc (.cells #[.int .i64 0,.int .i64 0] 30):=⟨_,rfl⟩
 have Hb:Hid (Below w.heap.size w w0):=by
  unfold Hid
  rw[hw0]
  exact((Below.refl w.heap.size w).alloc (Nat.le_refl _) _).alloc (by simp) _
 have Hcb:Hid (CBox w0 w.heap.size p ts.length cap p' fs.length cap'):=by
  unfold Hid CBox
  rw[hw0,Below.heap_alloc _ _ _ (by simp)]
  exact(MapKept.heap_alloc w _).1
 have Heb:Hid (EBox w0 (w.heap.size+1) 0 0):=by
  unfold Hid EBox
  rw[hw0]
  have:=(MapKept.heap_alloc (w.alloc (.cells #[.slice p ts.length cap,.slice p' fs.length cap'] 25)) (.cells #[.int .i64 0,.int .i64 0] 30)).1
  simpa using this
 have hsz1:=EBox.lt Heb.o
 have hsz2:w.heap.size < w0.heap.size:=by omega
 have Hw0:=zh hw0
 have HF:=zh hF
 have HS:=zh hS
 have HG:=zh hG
 have Hfs:=zh k3
 obtain⟨R,hR⟩:∃ R,R=Cd.chk ⟨ts,fs⟩:=⟨_,rfl⟩
 rw[<-hR]
 have HR:=zh hR
 clear hw0 hF hS hG k1 k2 k3 hok hR
 go_enter Tryz.func12,Tryz.ntmps12
 go_upto_region 1 with fail
 rw[<-Hw0.o]
 obtain⟨c0,c1,c2⟩:=CBox.cells Hcb.o
 obtain⟨e0,e1,ef⟩:=EBox.cells Heb.o
 have ef0:=ef 0
 have ef1:=ef 1
 have Hret:Hid _:=EBox.set2 Heb.o 17 0
 have HretB:Hid (Below w.heap.size w ((w0.setCell ⟨w.heap.size+1,0,none⟩ (.int .i64 17)).setCell ⟨w.heap.size+1,1,none⟩ (.int .i64 0))):=(Below.setCell Hb.o (p:=⟨w.heap.size+1,0,none⟩) (by simp) _).setCell (p:=⟨w.heap.size+1,1,none⟩) (by simp) _
 by_cases h0:fs.length=0
 ·have hfs0:fs=[]:=List.eq_nil_of_length_eq_zero h0
  subst hfs0
  have hR:R=(17,0):=HR.o
  subst hR
  obtain⟨z0,z1,_⟩:=EBox.cells Hret.o
  go_wp2
  exact bodyPost_ret (v:=.agg #[.int .i64 17,.int .i64 0]) (by simp[results,Tryz.results12,go_sem,z0,z1]) rfl ⟨rfl,HretB.o⟩
 ·have h0':=beq_eq_false_iff_ne.mpr (by omega)
  have hpos:0 < fs.length:=by omega
  obtain⟨b1,o1,q1,qc1,rfl,hb1,hfc1,_⟩:=(zF.below HF.o Hb.o).get 0 hpos
  have hchk:R=if 60000 < fs.length then(17,0) else if(fs[0]'hpos).free=0 then zbx ts.length fs fs 0 0 else(17,0):=by
   rw[HR.o]
   cases fs with
   | nil=>simp at hpos
   | cons f r=>rfl
  by_cases h6:60000 < fs.length
  ·have h6':(60000:Int) < fs.length:=by omega
   rw[if_pos h6] at hchk
   subst hchk
   obtain⟨z0,z1,_⟩:=EBox.cells Hret.o
   clear hfc1
   go_wp2
   exact bodyPost_ret (v:=.agg #[.int .i64 17,.int .i64 0]) (by simp[results,Tryz.results12,go_sem,z0,z1]) rfl ⟨rfl,HretB.o⟩
  ·have h6':¬ (60000:Int) < fs.length:=by omega
   rw[if_neg h6] at hchk
   have d0:=hfc1.c0
   simp only[Nat.zero_mul,Nat.add_zero] at d0
   by_cases hfr:(fs[0]'hpos).free=0
   ·rw[if_pos hfr] at hchk
    have Hchk:=zh hchk.symm
    rw[hfr] at d0
    clear hfc1 hchk hfr
    go_wp2_with fail
    go_loopg [3,30] fs.length (fun g av iv wr=>∃ (i:Nat) (a:Int),av=.int .i64 a/\iv=.int .i64 i/\i<=fs.length/\g=fs.length - i/\0<=a/\a<=i * 65535/\Hid (zbx ts.length fs (fs.drop i) i a=R/\Below w0.heap.size w0 wr))
    case atStart=>exact⟨0,0,rfl,rfl,by omega,by omega,by omega,by omega,by simpa using Hchk.o,Below.refl _ _⟩
    case round=>
     clear c0 c1 e0 e1 ef ef0 ef1 d0
     obtain⟨i,a,rfl,rfl,hi1,rfl,ha0,ha1,HQ⟩:=hrel
     by_cases hi:i < fs.length
     ·have hi':(i:Int) < fs.length:=by omega
      obtain⟨b2,o2,q2,qc2,heq,hb2,hfc2,hI2⟩:=(zF.below HF.o Hb.o).get i hi
      obtain⟨rfl,rfl⟩:b1=b2/\o1=o2:=by
       cases heq
       exact⟨rfl,rfl⟩
      clear heq
      have hlen:(fs[i]'hi).ins.length<=65535:=by
       have:=zal (Fn.ok_parts (Hfs.o _ (List.getElem_mem hi))).2.2.1
       omega
      have hrg:=zoa ts.length fs (fs[i]'hi) (decide (i=0))
      have hwr:=HQ.o.2
      have hwr2:=Below.trans Hb.o (hwr.mono (Below.size Hb.o))
      have hf:=hfc2.below hb2 hwr
      obtain⟨v0,v1,v2⟩:=hf
      have hbr:=lL hb2 hwr.size
      have hk4:Below w.heap.size w (wr.alloc (.cells #[.int .i64 (fs[i]'hi).free,.int .i64 (fs[i]'hi).sA,.slice q2 (fs[i]'hi).ins.length qc2] 47)):=hwr2.alloc hwr2.size _
      have hk4b:Below w0.heap.size w0 (wr.alloc (.cells #[.int .i64 (fs[i]'hi).free,.int .i64 (fs[i]'hi).sA,.slice q2 (fs[i]'hi).ins.length qc2] 47)):=hwr.alloc hwr.size _
      have Hcall:Hid _:=zoj (wr.alloc (.cells #[.int .i64 (fs[i]'hi).free,.int .i64 (fs[i]'hi).sA,.slice q2 (fs[i]'hi).ins.length qc2] 47)) p ts.length cap (some ⟨b1,o1,none⟩) cap' fs i hi (zF.below HF.o hk4) (ShIn.below HS.o hk4) (SgIn.below HG.o hk4) Hfs.o ⟨hn1,hn2⟩
      have HFb:Hid (FBox _ wr.heap.size (fs[i]'hi) q2 qc2):=(MapKept.heap_alloc wr _).1
      have q1:=HQ.o.1
      rw[zoh ts.length fs fs i hi a] at q1
      have Hq1:=zh q1
      have Hk4:=zh hk4b
      clear q1 hI2 hfc2 hwr hwr2 hk4 hk4b
      generalize (fs[i]'hi)=f at *
      generalize funP ts.length fs f (decide (i=0))=ev at *
      obtain⟨ek,ea⟩:=ev
      simp only at hrg Hcall Hq1
      go_upto_region 7 with fail
      clear v0 v1 v2 hbr
      generalize wr.alloc _=w4 at *
      generalize wr.heap.size=fbx at *
      obtain⟨m0,m1,m2⟩:=CBox.cells (CBox.below Hcb.o Hk4.o)
      go_wp2_with fail
      refine cM Hcall.o ?_
      rintro e9 w9 ⟨rfl,hb9⟩
      have Hw9:Hid _:=Below.then Hk4.o hb9 (Nat.le_refl _)
      obtain⟨z0,z1,z2,z3⟩:=FBox.cells (FBox.below HFb.o hb9)
      clear m0 m1 m2 hb9
      by_cases hek:ek=0
      ·have hek':(ek != 0)=false:=by simpa using hek
       have Q:Hid (zbx ts.length fs (fs.drop (i+1)) (i+1) (a+f.ins.length)=R/\_):=⟨by have:=Hq1.o;rw[if_pos hek] at this;exact this,Hw9.o⟩
       clear hek
       go_wp2
       go_roundg (fs.length - (i+1))
       case measure=>omega
       case rel=>exact⟨i+1,a+f.ins.length,by first | rfl | (congr 1;omega) | go_num,by first | rfl | (congr 1;omega) | go_num,by omega,rfl,by omega,by omega,Q⟩
      ·have hek':(ek != 0)=true:=by simpa using hek
       have hR:(ek,a+ea)=R:=by have:=Hq1.o;rw[if_neg hek] at this;exact this
       have hwe:IntKind.i64.wrap (a+ea)=a+ea:=IntWalk.i64_in _ (by omega)
       have heb:=EBox.kp Heb.o (Kp.zB (X:=[]) Hw9.o) (by simp)
       obtain⟨y0,y1,yf⟩:=heb.cells
       have yf0:=yf 0
       have yf1:=yf 1
       have hyl:=heb.lt
       have hz:=heb.set2 ek (a+ea)
       obtain⟨u0,u1,_⟩:=hz.cells
       have HB:Hid (Below w.heap.size w ((w9.setCell ⟨w.heap.size+1,0,none⟩ (.int .i64 ek)).setCell ⟨w.heap.size+1,1,none⟩ (.int .i64 (a+ea)))):=(Below.setCell (Below.trans Hb.o (Below.mono Hw9.o (Below.size Hb.o))) (p:=⟨w.heap.size+1,0,none⟩) (by simp) _).setCell (p:=⟨w.heap.size+1,1,none⟩) (by simp) _
       clear heb hz yf hek z0 z1 z2 z3
       subst hR
       go_wp2
       exact bodyPost_ret (v:=.agg #[.int .i64 ek,.int .i64 (a+ea)]) (by simp[results,Tryz.results12,go_sem,u0,u1]) rfl ⟨rfl,HB.o⟩
     ·have hi':¬ (i:Int) < fs.length:=by omega
      have hR:((0:Int),(0:Int))=R:=by
       have:=HQ.o.1
       rw[zbk fs i hi] at this
       exact this
      have heb:=EBox.kp Heb.o (Kp.zB (X:=[]) HQ.o.2) (by simp)
      obtain⟨y0,y1,yf⟩:=heb.cells
      have yf0:=yf 0
      have yf1:=yf 1
      have hyl:=heb.lt
      have hz:=heb.set2 0 0
      obtain⟨z0,z1,_⟩:=hz.cells
      have HB:Hid (Below w.heap.size w ((wr.setCell ⟨w.heap.size+1,0,none⟩ (.int .i64 0)).setCell ⟨w.heap.size+1,1,none⟩ (.int .i64 0))):=(Below.setCell (Below.trans Hb.o (Below.mono HQ.o.2 (Below.size Hb.o))) (p:=⟨w.heap.size+1,0,none⟩) (by simp) _).setCell (p:=⟨w.heap.size+1,1,none⟩) (by simp) _
      clear heb hz yf
      subst hR
      go_wp2
      exact bodyPost_ret (v:=.agg #[.int .i64 0,.int .i64 0]) (by simp[results,Tryz.results12,go_sem,z0,z1]) rfl ⟨rfl,HB.o⟩
   ·rw[if_neg hfr] at hchk
    have hfr':((fs[0]'hpos).free != 0)=true:=by simpa using hfr
    subst hchk
    obtain⟨z0,z1,_⟩:=EBox.cells Hret.o
    generalize (fs[0]'hpos).free=fr at *
    clear hfc1 hfr
    go_wp2
    exact bodyPost_ret (v:=.agg #[.int .i64 17,.int .i64 0]) (by simp[results,Tryz.results12,go_sem,z0,z1]) rfl ⟨rfl,HretB.o⟩
end Go.Proofs.YtkcmachfagcnaaaGreatDoor.C12
