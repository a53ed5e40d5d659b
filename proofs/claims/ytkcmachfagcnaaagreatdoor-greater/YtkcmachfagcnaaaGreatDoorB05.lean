/- Part of Greater. -/
import Derived.Test.YtkcmachfagcnaaaGreatDoorB04
import Derived.Test.YtkcmachfagcnaaaGreatDoorB02
set_option maxHeartbeats 8000000
set_option maxRecDepth 100000
namespace Go.Proofs.YtkcmachfagcnaaaGreatDoor.C12
open Go.RowKit Go.Deep
theorem IBox.kp{X:List Nat}{w w':World}{b:Nat}{x:In}(h:IBox w b x)(hk:Kp X w w')(hx:b∉X):IBox w' b x:=(hk.block b (sz h) hx).trans h
def stepJ(x:In)(i:Nat)(L:List Sn)(s:Sn):Bool×List Sn:=
 if x.op=17\/x.op=16 then(decide (s.vals=0) && decide (s.tA=0),L)
 else if x.op=22 then(true,L)
 else if x.op=18 then zQ L x.a.toNat s
 else if x.op=19 then(if(zQ L x.a.toNat s).1=true then zQ (zQ L x.a.toNat s).2 (i+1) s else(false,(zQ L x.a.toNat s).2))
 else if x.op=20 then(if(zQ L x.a.toNat ⟨s.is,s.vals+1,s.tA⟩).1=true then zQ (zQ L x.a.toNat ⟨s.is,s.vals+1,s.tA⟩).2 (i+1) ⟨s.is,s.vals,s.tA+1⟩ else(false,(zQ L x.a.toNat ⟨s.is,s.vals+1,s.tA⟩).2))
 else if x.op=21 then(if 0<=s.tA - 1 then zQ L (i+1) ⟨s.is,s.vals,s.tA - 1⟩ else(false,L))
 else zQ L (i+1) s
def stepP(fs:List Fn)(x:In)(i:Nat)(L:List Sn):Bool×List Sn:=
 if((L[i]?).getD default).is=true/\zT fs x<=((L[i]?).getD default).vals then stepJ x i L ⟨true,((L[i]?).getD default).vals+(putsP x - zT fs x),((L[i]?).getD default).tA⟩ else(false,L)
structure Stp(w0:World)(fp:Nat)(p:Option Addr)(nt cap:Nat)(p':Option Addr)(nf cap' b n nc:Nat)(L:List Sn)(ib:Nat)(x:In)(nb:Nat)(s:Sn)(wx:World):Prop where
 flow:WBox wx fp p nt cap p' nf cap' b n nc
 known:KBox wx b L
 ins:IBox wx ib x
 own:MBox wx nb s
 apart:w0.heap.size<=nb
 kept:Kp [] w0 wx
theorem zjh(L:List Sn)(j:Nat)(s:Sn):(zQ L j s).2.length=L.length:=by
 unfold zQ
 split
 ·rfl
 ·split <;> simp
theorem Stp.of{w0 wx:World}{fp:Nat}{p:Option Addr}{nt cap:Nat}{p':Option Addr}{nf cap' b n nc:Nat}{L:List Sn}{ib:Nat}{x:In}{nb:Nat}{s:Sn}(h1:WBox w0 fp p nt cap p' nf cap' b n nc)(h2:KBox w0 b L)(h3:IBox w0 ib x)(hk:Kp [] w0 wx)(h4:MBox wx nb s)(h5:w0.heap.size<=nb):Stp w0 fp p nt cap p' nf cap' b n nc L ib x nb s wx:=
 ⟨h1.kp hk (by simp),h2.kp hk (by simp),h3.kp hk (by simp),h4,h5,hk⟩
theorem zh6(wb w:World)(fp:Nat)(p:Option Addr)(nt cap:Nat)(p':Option Addr)(cap':Nat)(b nc:Nat)(fs:List Fn)(f:Fn)(main:Bool)(k:Nat)(hk:k < 26)(a c:Int)(L:List Sn)(i:Nat)(hi:i+1 < L.length)(hx:In.ok ⟨k,a,c⟩=true)(ho:zR nt fs.length f ⟨k,a,c⟩ main=0)(hfl:f.ins.length < L.length)(hLn:L.length<=65536)(hfs:∀ g∈fs,g.ok=true)
  (hW:WBox w fp p nt cap p' fs.length cap' b L.length nc) (hK:KBox w b L) (hF:zF wb p' fs) (hS:ShIn wb) (hG:SgIn wb) (hB:Below wb.heap.size wb w) (hL:LOk L i) :
  Calls Tryz.prog 74 #[.pointer (some ⟨fp,0,none⟩),.int .i64 i,.agg #[.int .i64 k,.int .i64 a,.int .i64 c]] w fun e w'=>e=.returned (.bool (stepP fs ⟨k,a,c⟩ i L).1)/\KBox w' b (stepP fs ⟨k,a,c⟩ i L).2/\Kp [b] w w':=by
 have hkx:Kp [] w (w.alloc (.cells #[.int .i64 k,.int .i64 a,.int .i64 c] 44)):=kA
 have hW0:=hW.kp hkx (by simp)
 have hK0:=hK.kp hkx (by simp)
 have hI0:IBox (w.alloc (.cells #[.int .i64 k,.int .i64 a,.int .i64 c] 44)) w.heap.size ⟨k,a,c⟩:=(MapKept.heap_alloc w _).1
 have hB0:Below wb.heap.size wb (w.alloc (.cells #[.int .i64 k,.int .i64 a,.int .i64 c] 44)):=hB.alloc hB.size _
 obtain⟨tr1,tr2⟩:=zeu ho hx hfs
 have pr:=zfq ⟨k,a,c⟩
 have e0:(L[i]?).getD default=L[i]'(by omega):=by simp[show i < L.length by omega]
 obtain⟨q1,q2,q3,q4⟩:=hL (L[i]'(by omega)) (List.getElem_mem _)
 obtain⟨R,hR⟩:∃ R,R=stepP fs ⟨k,a,c⟩ i L:=⟨_,rfl⟩
 rw[<-hR]
 unfold stepP at hR
 rw[e0] at hR
 have Htk:Hid (∀ wx,Kp [] (w.alloc (.cells #[.int .i64 k,.int .i64 a,.int .i64 c] 44)) wx->Calls Tryz.prog 46 #[.agg #[.slice p nt cap,.slice p' fs.length cap'],.agg #[.int .i64 k,.int .i64 a,.int .i64 c]] wx fun e w'=>e=.returned (.int .i64 (zT fs ⟨k,a,c⟩))/\Below wx.heap.size wx w'):=fun wx hwx=>by
  have hBx:Below wb.heap.size wb wx:=hB0.trans (hwx.below hB0.size (by simp))
  exact znc wx p nt cap p' cap' fs f main k hk a c hx ho (hF.below hBx) (hS.below hBx) (hG.below hBx)
 have hjump:k=18\/k=19\/k=20->0<=a/\a < L.length:=fun h=>by
  have h1:=zgr ho (by simp only;omega)
  have h2:=zal (In.ok_one hx (by rcases h with rfl | rfl | rfl <;> rfl))
  simp only at h1 h2
  omega
 generalize hxx:(L[i]'(by omega))=s at *
 obtain⟨si,sv,st⟩:=s
 simp only at q1 q2 q3 q4 hR
 have HRc:Hid (∀ (L':List Sn) (j:Nat) (s:Sn) (wx:World),L'.length=L.length->j < L.length->WBox wx fp p nt cap p' fs.length cap' b L.length nc->KBox wx b L'->Calls Tryz.prog 95 #[.pointer (some ⟨fp,0,none⟩),.int .i64 j,.agg #[.bool s.is,.int .i64 s.vals,.int .i64 s.tA]] wx fun e w'=>e=.returned (.bool (zQ L' j s).1)/\KBox w' b (zQ L' j s).2/\Kp [b] wx w'):=fun L' j s wx hl hj h1 h2=>by
  rw[<-hl] at h1
  exact zpq wx fp p nt cap p' fs.length cap' b nc L' j (by omega) s h1 h2 (by omega)
 have hK2:Hid (∀ wx,KBox wx b L->wx.cell? ⟨b,i * 3,none⟩=some (.bool si)/\wx.cell? ⟨b,i * 3+1,none⟩=some (.int .i64 sv)/\wx.cell? ⟨b,i * 3+2,none⟩=some (.int .i64 st)):=fun wx hwx=>by
  obtain⟨u0,u1,u2,_⟩:=hwx.cells i (by omega)
  rw[hxx] at u0 u1 u2
  exact⟨u0,u1,u2⟩
 have HR:=zh hR
 have HW0:Hid (WBox _ fp p nt cap p' fs.length cap' b L.length nc):=hW0
 have HK0:Hid (KBox _ b L):=hK0
 have HI0:Hid (IBox _ _ _):=hI0
 have HB0:Hid (Below _ _ _):=hB0
 have HkX:Hid (Kp [] w _):=hkx
 have HS:Hid (ShIn wb):=hS
 have Hj:Hid (k=18\/k=19\/k=20->0<=a/\a < L.length):=hjump
 have hne:=hW.ne hK
 have Hne:Hid (fp≠b):=hne
 have Hsz:Hid (_/\_):=⟨hK.lt,hW.lt⟩
 clear hkx hW0 hK0 hI0 hB0 hR hW hK hF hS hG hB hfs hL e0 hxx ho hx hfl hjump hne
 generalize zT fs ⟨k,a,c⟩=tk at *
 have ep:=zpr k hk a c
 rw[ep] at pr HR
 clear ep
 go_enter Tryz.func74,Tryz.ntmps74
 go_upto_region 1 with fail
 generalize w.alloc _=w0 at *
 have hi':(i:Int) < L.length:=by omega
 have Hcc:Hid (∀ wx,Kp [] w0 wx->(wx.cell? ⟨fp,2,none⟩=some (.slice (some ⟨b,0,none⟩) L.length nc)/\fp < wx.heap.size/\wx.cell? ⟨fp,0,none⟩=some (.slice p nt cap)/\wx.cell? ⟨fp,1,none⟩=some (.slice p' fs.length cap'))/\(wx.cell? ⟨b,i * 3,none⟩=some (.bool si)/\wx.cell? ⟨b,i * 3+1,none⟩=some (.int .i64 sv)/\wx.cell? ⟨b,i * 3+2,none⟩=some (.int .i64 st)/\b < wx.heap.size)/\(wx.cell? ⟨w.heap.size,0,none⟩=some (.int .i64 k)/\wx.cell? ⟨w.heap.size,1,none⟩=some (.int .i64 a)/\wx.cell? ⟨w.heap.size,2,none⟩=some (.int .i64 c)/\w.heap.size < wx.heap.size)):=fun wx hwx=>by
  have h1:=WBox.kp HW0.o hwx (by simp)
  have h2:=KBox.kp HK0.o hwx (by simp)
  have h3:=IBox.kp HI0.o hwx (by simp)
  obtain⟨u0,u1,u2⟩:=hK2.out wx h2
  exact⟨⟨h1.cells.2.2.1,h1.cells.2.2.2,h1.cells.1,h1.cells.2.1⟩,⟨u0,u1,u2,h2.lt⟩,h3.cells⟩
 go_cut [7,8] from 10 to 22 (fun sv' tv wx=>Hid (∃ nb,sv'=.pointer (some ⟨nb,0,none⟩)/\tv=.int .i64 tk/\Stp w0 fp p nt cap p' fs.length cap' b L.length nc L w.heap.size ⟨k,a,c⟩ nb ⟨si,sv,st⟩ wx))
 case first=>
  refine zao (C:=fun wx=>Kp [] w0 wx) (by kernel_rfl) ?_
  refine qA 0 rfl ?_
  apply xI
  (intro wx hwx;obtain⟨⟨f0,f1,f10,f11⟩,⟨f2,f3,f4,f5⟩,f6,f7,f8,f9⟩:=Hcc.o wx hwx;go_simp <;> rfl)
  refine qA 1 rfl ?_
  apply xI
  (intro wx hwx;obtain⟨⟨f0,f1,f10,f11⟩,⟨f2,f3,f4,f5⟩,f6,f7,f8,f9⟩:=Hcc.o wx hwx;go_simp <;> rfl)
  refine qA 2 rfl ?_
  apply xI
  (intro wx hwx;obtain⟨⟨f0,f1,f10,f11⟩,⟨f2,f3,f4,f5⟩,f6,f7,f8,f9⟩:=Hcc.o wx hwx;go_simp <;> rfl)
  refine qA 3 rfl ?_
  apply xI
  (intro wx hwx;obtain⟨⟨f0,f1,f10,f11⟩,⟨f2,f3,f4,f5⟩,f6,f7,f8,f9⟩:=Hcc.o wx hwx;go_simp <;> rfl)
  refine qA 4 rfl ?_
  apply xI
  (intro wx hwx;obtain⟨⟨f0,f1,f10,f11⟩,⟨f2,f3,f4,f5⟩,f6,f7,f8,f9⟩:=Hcc.o wx hwx;go_simp <;> rfl)
  refine qA 5 rfl ?_
  apply xI
  (intro wx hwx;obtain⟨⟨f0,f1,f10,f11⟩,⟨f2,f3,f4,f5⟩,f6,f7,f8,f9⟩:=Hcc.o wx hwx;go_simp <;> rfl)
  refine qA 6 rfl ?_
  apply xI
  (intro wx hwx;obtain⟨⟨f0,f1,f10,f11⟩,⟨f2,f3,f4,f5⟩,f6,f7,f8,f9⟩:=Hcc.o wx hwx;go_simp <;> rfl)
  refine qA 7 rfl ?_
  apply xI
  (intro wx hwx;obtain⟨⟨f0,f1,f10,f11⟩,⟨f2,f3,f4,f5⟩,f6,f7,f8,f9⟩:=Hcc.o wx hwx;go_simp <;> rfl)
  refine qA 8 rfl ?_
  apply xI
  (intro wx hwx;obtain⟨⟨f0,f1,f10,f11⟩,⟨f2,f3,f4,f5⟩,f6,f7,f8,f9⟩:=Hcc.o wx hwx;go_simp <;> rfl)
  refine qA 9 rfl ?_
  apply xI
  (intro wx hwx;obtain⟨⟨f0,f1,f10,f11⟩,⟨f2,f3,f4,f5⟩,f6,f7,f8,f9⟩:=Hcc.o wx hwx;go_simp <;> rfl)
  refine qA 10 rfl ?_
  apply xI
  (intro wx hwx;obtain⟨⟨f0,f1,f10,f11⟩,⟨f2,f3,f4,f5⟩,f6,f7,f8,f9⟩:=Hcc.o wx hwx;go_simp <;> rfl)
  refine qA 11 rfl ?_
  apply xI
  (intro wx hwx;obtain⟨⟨f0,f1,f10,f11⟩,⟨f2,f3,f4,f5⟩,f6,f7,f8,f9⟩:=Hcc.o wx hwx;go_simp <;> rfl)
  have hCd:Kp [] w0 w0.drew:=(Kp.refl _ _).drew
  refine zkd (i:=12) (j:=13) hCd rfl rfl (by kernel_rfl) (fun K hK=>?_) (fun K hK=>?_)
  ·go_simp
   refine cM (Htk.o _ hCd) ?_
   rintro e9 w4 ⟨rfl,hb4⟩
   refine hK _ _ ?_
   clear hK K
   have hC4:Kp [] w0 w4:=hCd.trans (Kp.zB hb4)
   refine oA 13 hC4 rfl (fun K hK=>?_)
   go_simp
   refine hK _ _ ?_
   clear hK K
   refine oA 14 (hC4.trans (Kp.alloc _ _ _)) rfl (fun K hK=>?_)
   go_simp
   refine hK _ _ ?_
   clear hK K
   refine oA 15 (hC4.trans (Kp.alloc _ _ _)) rfl (fun K hK=>?_)
   go_simp
   refine hK _ _ ?_
   clear hK K
   refine zag (hC4.trans (Kp.alloc _ _ _)) (by kernel_rfl) ?_
   go_wp2_with fail
   go_meet
   exact⟨w4.heap.size,rfl,rfl,Stp.of HW0.o HK0.o HI0.o (hC4.trans (Kp.alloc _ _ _)) (MapKept.heap_alloc w4 _).1 hC4.size⟩
  ·go_simp
   refine hK _ _ ?_
   clear hK K
   have hC4:Kp [] w0 (w0.alloc (.cells #[.bool false,.int .i64 0,.int .i64 0] 179)).drew:=(Kp.alloc _ _ _).drew
   refine oA 12 hC4 rfl (fun K hK=>?_)
   go_simp
   refine cM (Htk.o _ hC4) ?_
   rintro e9 w4 ⟨rfl,hb4⟩
   refine hK _ _ ?_
   clear hK K
   have hC5:Kp [] w0 w4:=hC4.trans (Kp.zB hb4)
   have hnx:MBox w4 w0.heap.size ⟨false,0,0⟩:=(hb4.block _ (by simp)).trans (MapKept.heap_alloc w0 _).1
   obtain⟨g0,g1,g2,gf⟩:=MBox.cells hnx
   have g3:=gf 0
   have g4:=gf 1
   have g5:=gf 2
   have g6:=MBox.lt hnx
   have Hnx:Hid (MBox w4 w0.heap.size ⟨false,0,0⟩):=hnx
   clear hnx gf
   refine oA 14 hC5 rfl (fun K hK=>?_)
   go_simp
   refine hK _ _ ?_
   clear hK K
   have hk6:Kp [w0.heap.size] w4 (((w4.setCell ⟨w0.heap.size,0,none⟩ (.bool si)).setCell ⟨w0.heap.size,1,none⟩ (.int .i64 sv)).setCell ⟨w0.heap.size,2,none⟩ (.int .i64 st)):=((Kp.setCell w4 ⟨w0.heap.size,0,none⟩ (by simp) _).trans (Kp.setCell _ ⟨w0.heap.size,1,none⟩ (by simp) _)).trans (Kp.setCell _ ⟨w0.heap.size,2,none⟩ (by simp) _)
   have hC6:Kp [] w0 (((w4.setCell ⟨w0.heap.size,0,none⟩ (.bool si)).setCell ⟨w0.heap.size,1,none⟩ (.int .i64 sv)).setCell ⟨w0.heap.size,2,none⟩ (.int .i64 st)):=hC5.then hk6 (by simp)
   have hN6:=MBox.set3 Hnx.o ⟨si,sv,st⟩
   simp only at hN6
   refine oA 15 hC6 rfl (fun K hK=>?_)
   go_simp
   refine hK _ _ ?_
   clear hK K
   refine zag hC6 (by kernel_rfl) ?_
   go_wp2_with fail
   go_meet
   exact⟨w0.heap.size,rfl,rfl,Stp.of HW0.o HK0.o HI0.o hC6 hN6 (Nat.le_refl _)⟩
 case rest=>
  obtain⟨nb,rfl,rfl,hstp⟩:=hcut.out
  clear hcut
  obtain⟨m0,m1,m2,mf⟩:=hstp.own.cells
  have m3:=hstp.own.lt
  have Hst:=zh hstp
  have HKw:Hid (Kp [] w wc):=Kp.trans HkX.o hstp.kept
  clear hstp
  by_cases hgo:¬ (si=true/\tk<=sv)
  ·have hR:R=(false,L):=by rw[HR.o,if_neg hgo]
   subst hR
   cases si with
   | false=>
    go_wp2
    go_ret
    exact⟨rfl,Hst.o.known,Kp.mono HKw.o (by simp)⟩
   | true=>
    have hgo2:sv < tk:=by
     have:¬ tk<=sv:=fun h=>hgo ⟨rfl,h⟩
     omega
    clear hgo
    go_wp2
    go_ret
    exact⟨rfl,Hst.o.known,Kp.mono HKw.o (by simp)⟩
  ·obtain⟨rfl,hgo2⟩:=Decidable.not_not.1 hgo
   have hgo3:¬ sv < tk:=by omega
   clear hgo
   rw[if_pos ⟨rfl,hgo2⟩] at HR
   have hS0:=ShIn.below HS.o (Below.trans HB0.o (Kp.below Hst.o.kept (Below.size HB0.o) (by simp)))
   obtain⟨-,-,c2⟩:=hS0.cells k hk
   obtain⟨y0,y1,y2,y3⟩:=Hst.o.ins.cells
   simp only at y0 y1 y2
   have hk':(k:Int) < 26:=by omega
   have mf1:=mf 1
   clear mf hS0
   have hstp5:Hid (∀ v,Stp w0 fp p nt cap p' fs.length cap' b L.length nc L w.heap.size ⟨k,a,c⟩ nb ⟨true,v,st⟩ (wc.setCell ⟨nb,1,none⟩ (.int .i64 v)).drew):=fun v=>by
    have hs:=Hst.o
    have hkk:Kp [nb] wc (wc.setCell ⟨nb,1,none⟩ (.int .i64 v)).drew:=(Kp.setCell wc ⟨nb,1,none⟩ (by simp) _).drew
    exact Stp.of HW0.o HK0.o HI0.o (hs.kept.then hkk (by intro y hy;right;simp only[List.mem_singleton] at hy;rw[hy];exact hs.apart)) (MBox.kp (hs.own.setV v) (kr.drew) (by simp)) hs.apart
   obtain⟨nv,hnv⟩:∃ nv,nv=sv+(putOf k - tk):=⟨_,rfl⟩
   have nv1:0<=nv:=by omega
   have nv2:nv<=5001:=by omega
   have Hnv:=zh hnv
   rw[<-hnv] at HR
   clear hnv
   go_upto_region 4 with fail
   go_cut [] from 32 to 42 (fun wx=>Hid (Stp w0 fp p nt cap p' fs.length cap' b L.length nc L w.heap.size ⟨k,a,c⟩ nb ⟨true,nv,st⟩ wx))
   case first=>
    go_region
    all_goals go_wp2_with fail
    all_goals go_meet
    all_goals (rw[Hnv.o];exact hstp5.out _)
   case rest=>
    have hstp:=hcut.out
    clear hcut hstp5 m0 m1 m2 m3 mf1 c2 y0 y1 y2 y3 hgo2 hgo3
    rename World=>w5
    obtain⟨m0,m1,m2,mf⟩:=hstp.own.cells
    have m3:=hstp.own.lt
    simp only at m0 m1 m2
    obtain⟨y0,y1,y2,y3⟩:=hstp.ins.cells
    simp only at y0 y1 y2
    have Hst:Hid (Stp w0 fp p nt cap p' fs.length cap' b L.length nc L w.heap.size ⟨k,a,c⟩ nb ⟨true,nv,st⟩ w5):=hstp
    have HKw:Hid (Kp [] w w5):=Kp.trans HkX.o hstp.kept
    have Hnb:Hid (nb≠b/\w.heap.size≠b/\w.heap.size≠nb):=by
     have h1:=Hsz.o
     have h2:=hstp.apart
     have h3:=Kp.size HkX.o
     have h4:=(IBox.cells HI0.o).2.2.2
     exact⟨by omega,by omega,by omega⟩
    clear hstp
    have e1:((i+1:Nat):Int)=(i:Int)+1:=by omega
    have E1:=zh e1
    have hin:(i:Int)+1 < L.length:=by omega
    clear e1
    by_cases h17:k=17
    ·have hR:R=(decide (nv=0) && decide (st=0),L):=by
      rw[HR.o]
      unfold stepJ
      rw[if_pos (by simp only;omega)]
     have b17:((k:Int) == 17)=true:=by simp;omega
     clear h17
     by_cases z1:nv=0
     ·by_cases z2:st=0
      ·have hR2:R=(true,L):=by rw[hR,z1,z2];rfl
       subst hR2
       clear hR
       subst z1
       subst z2
       go_wp2
       go_ret
       exact⟨rfl,Hst.o.known,Kp.mono HKw.o (by simp)⟩
      ·have z2b:(st == 0)=false:=by simpa using z2
       have hR2:R=(false,L):=by rw[hR,decide_eq_false z2];simp
       subst hR2
       clear hR z2
       subst z1
       go_wp2
       go_ret
       exact⟨rfl,Hst.o.known,Kp.mono HKw.o (by simp)⟩
     ·have z1b:(nv == 0)=false:=by simpa using z1
      have hR2:R=(false,L):=by rw[hR,decide_eq_false z1];rfl
      subst hR2
      clear hR z1
      go_wp2
      go_ret
      exact⟨rfl,Hst.o.known,Kp.mono HKw.o (by simp)⟩
    by_cases h16:k=16
    ·have hR:R=(decide (nv=0) && decide (st=0),L):=by
      rw[HR.o]
      unfold stepJ
      rw[if_pos (by simp only;omega)]
     have b17:((k:Int) == 17)=false:=by simp;omega
     have b16:((k:Int) == 16)=true:=by simp;omega
     clear h17 h16
     by_cases z1:nv=0
     ·by_cases z2:st=0
      ·have hR2:R=(true,L):=by rw[hR,z1,z2];rfl
       subst hR2
       clear hR
       subst z1
       subst z2
       go_wp2
       go_ret
       exact⟨rfl,Hst.o.known,Kp.mono HKw.o (by simp)⟩
      ·have z2b:(st == 0)=false:=by simpa using z2
       have hR2:R=(false,L):=by rw[hR,decide_eq_false z2];simp
       subst hR2
       clear hR z2
       subst z1
       go_wp2
       go_ret
       exact⟨rfl,Hst.o.known,Kp.mono HKw.o (by simp)⟩
     ·have z1b:(nv == 0)=false:=by simpa using z1
      have hR2:R=(false,L):=by rw[hR,decide_eq_false z1];rfl
      subst hR2
      clear hR z1
      go_wp2
      go_ret
      exact⟨rfl,Hst.o.known,Kp.mono HKw.o (by simp)⟩
    by_cases h22:k=22
    ·have hR:R=(true,L):=by
      rw[HR.o]
      unfold stepJ
      rw[if_neg (by simp only;omega),if_pos (by simp only;omega)]
     have b17:((k:Int) == 17)=false:=by simp;omega
     have b16:((k:Int) == 16)=false:=by simp;omega
     have b22:((k:Int) == 22)=true:=by simp;omega
     clear h17 h16 h22
     subst hR
     go_wp2
     go_ret
     exact⟨rfl,Hst.o.known,Kp.mono HKw.o (by simp)⟩
    by_cases h18:k=18
    ·have hR:R=zQ L a.toNat ⟨true,nv,st⟩:=by
      rw[HR.o]
      unfold stepJ
      rw[if_neg (by simp only;omega),if_neg (by simp only;omega),if_pos (by simp only;omega)]
     obtain⟨ha1,ha2⟩:=Hj.o (by omega)
     obtain⟨j,rfl⟩:∃ j:Nat,a=(j:Int):=⟨a.toNat,by omega⟩
     rw[Int.toNat_natCast] at hR
     have hjl:j < L.length:=by omega
     have b17:((k:Int) == 17)=false:=by simp;omega
     have b16:((k:Int) == 16)=false:=by simp;omega
     have b22:((k:Int) == 22)=false:=by simp;omega
     have b18:((k:Int) == 18)=true:=by simp;omega
     clear h17 h16 h22 h18
     subst hR
     have Hc:Hid _:=HRc.o L j ⟨true,nv,st⟩ w5 rfl hjl Hst.o.flow Hst.o.known
     go_wp2_with fail
     refine cM Hc.o ?_
     rintro e6 w6 ⟨rfl,k6,kp6⟩
     have Hk6:Hid (_/\_):=⟨k6,Kp.trans (Kp.mono HKw.o (by simp)) kp6⟩
     clear k6 kp6 m0 m1 m2 m3 mf y0 y1 y2 y3
     go_wp2
     go_ret
     exact⟨rfl,Hk6.o⟩
    by_cases h19:k=19
    ·have hR:R=(if(zQ L a.toNat ⟨true,nv,st⟩).1=true then zQ (zQ L a.toNat ⟨true,nv,st⟩).2 (i+1) ⟨true,nv,st⟩ else(false,(zQ L a.toNat ⟨true,nv,st⟩).2)):=by
      rw[HR.o]
      unfold stepJ
      rw[if_neg (by simp only;omega),if_neg (by simp only;omega),if_neg (by simp only;omega),if_pos (by simp only;omega)]
     obtain⟨ha1,ha2⟩:=Hj.o (by omega)
     obtain⟨j,rfl⟩:∃ j:Nat,a=(j:Int):=⟨a.toNat,by omega⟩
     rw[Int.toNat_natCast] at hR
     have hjl:j < L.length:=by omega
     have b17:((k:Int) == 17)=false:=by simp;omega
     have b16:((k:Int) == 16)=false:=by simp;omega
     have b22:((k:Int) == 22)=false:=by simp;omega
     have b18:((k:Int) == 18)=false:=by simp;omega
     have b19:((k:Int) == 19)=true:=by simp;omega
     clear h17 h16 h22 h18 h19
     have Hc:Hid _:=HRc.o L j ⟨true,nv,st⟩ w5 rfl hjl Hst.o.flow Hst.o.known
     have hl1:=zjh L j ⟨true,nv,st⟩
     generalize zQ L j ⟨true,nv,st⟩=r1 at *
     obtain⟨c1,L1⟩:=r1
     simp only at hl1 Hc hR
     have Hl1:=zh hl1
     clear hl1
     have HR:=zh hR
     clear hR
     go_wp2_with fail
     refine cM Hc.o ?_
     rintro e6 w6 ⟨rfl,k6,kp6⟩
     have Hk6:Hid (_/\_):=⟨k6,Kp.trans (Kp.mono HKw.o (by simp)) kp6⟩
     have hm6:=Hst.o.own.kp kp6 (by simpa using Hnb.o.1)
     have Hw6:Hid _:=Hst.o.flow.kp kp6 (by simpa using Hne.o)
     clear k6 kp6 m0 m1 m2 m3 mf y0 y1 y2 y3
     obtain⟨m0,m1,m2,mf⟩:=hm6.cells
     have m3:=hm6.lt
     simp only at m0 m1 m2
     clear hm6
     cases c1
     ·have hR2:R=(false,L1):=by rw[HR.o];rfl
      subst hR2
      go_wp2
      go_ret
      exact⟨rfl,Hk6.o⟩
     ·have hR2:R=zQ L1 (i+1) ⟨true,nv,st⟩:=by rw[HR.o];rfl
      subst hR2
      have Hc:Hid _:=HRc.o L1 (i+1) ⟨true,nv,st⟩ w6 Hl1.o (by omega) Hw6.o Hk6.o.1
      rw[E1.out] at Hc
      go_wp2_with fail
      refine cM Hc.o ?_
      rintro e7 w7 ⟨rfl,k7,kp7⟩
      have Hk7:Hid (_/\_):=⟨k7,Kp.trans Hk6.o.2 kp7⟩
      clear k7 kp7 m0 m1 m2 m3 mf
      go_wp2
      go_ret
      exact⟨rfl,Hk7.o⟩
    by_cases h20:k=20
    ·have hR:R=(if(zQ L a.toNat ⟨true,nv+1,st⟩).1=true then zQ (zQ L a.toNat ⟨true,nv+1,st⟩).2 (i+1) ⟨true,nv,st+1⟩ else(false,(zQ L a.toNat ⟨true,nv+1,st⟩).2)):=by
      rw[HR.o]
      unfold stepJ
      rw[if_neg (by simp only;omega),if_neg (by simp only;omega),if_neg (by simp only;omega),if_neg (by simp only;omega),if_pos (by simp only;omega)]
     obtain⟨ha1,ha2⟩:=Hj.o (by omega)
     obtain⟨j,rfl⟩:∃ j:Nat,a=(j:Int):=⟨a.toNat,by omega⟩
     rw[Int.toNat_natCast] at hR
     have hjl:j < L.length:=by omega
     have b17:((k:Int) == 17)=false:=by simp;omega
     have b16:((k:Int) == 16)=false:=by simp;omega
     have b22:((k:Int) == 22)=false:=by simp;omega
     have b18:((k:Int) == 18)=false:=by simp;omega
     have b19:((k:Int) == 19)=false:=by simp;omega
     have b20:((k:Int) == 20)=true:=by simp;omega
     clear h17 h16 h22 h18 h19 h20
     have mf2:=mf 2
     have hkp:Kp [nb] w5 ((w5.setCell ⟨nb,2,none⟩ (.int .i64 (st+1))).alloc (.cells #[.bool true,.int .i64 (nv+1),.int .i64 st] 179)):=(Kp.setCell w5 ⟨nb,2,none⟩ (by simp) _).trans (Kp.alloc _ _ _)
     have hmA:MBox ((w5.setCell ⟨nb,2,none⟩ (.int .i64 (st+1))).alloc (.cells #[.bool true,.int .i64 (nv+1),.int .i64 st] 179)) nb ⟨true,nv,st+1⟩:=(Hst.o.own.setT (st+1)).kp kA (by simp)
     have hmB:MBox ((w5.setCell ⟨nb,2,none⟩ (.int .i64 (st+1))).alloc (.cells #[.bool true,.int .i64 (nv+1),.int .i64 st] 179)) w5.heap.size ⟨true,nv+1,st⟩:=by
      have:=(MapKept.heap_alloc (w5.setCell ⟨nb,2,none⟩ (.int .i64 (st+1))) (.cells #[.bool true,.int .i64 (nv+1),.int .i64 st] 179)).1
      rw[show(w5.setCell ⟨nb,2,none⟩ (.int .i64 (st+1))).heap.size=w5.heap.size by simp[World.setCell]] at this
      exact this
     have Hcl:Hid (∀ (wx:World),wx=((w5.setCell ⟨nb,2,none⟩ (.int .i64 (st+1))).alloc (.cells #[.bool true,.int .i64 (nv+1),.int .i64 st] 179))->MBox wx nb ⟨true,nv,st+1⟩/\MBox wx w5.heap.size ⟨true,nv+1,st⟩/\KBox wx b L/\WBox wx fp p nt cap p' fs.length cap' b L.length nc/\IBox wx w.heap.size ⟨k,j,c⟩/\Kp [] w wx/\w5.heap.size≠b):=fun wx hwx=>by
      subst hwx
      have hw5:=Kp.size HKw.o
      have hsz:=Hsz.o
      have hap:=Hst.o.apart
      have hk0:=Kp.size HkX.o
      refine⟨hmA,hmB,Hst.o.known.kp hkp (by simpa using Ne.symm Hnb.o.1),Hst.o.flow.kp hkp ?_,Hst.o.ins.kp hkp (by simpa using Hnb.o.2.2),Kp.then HKw.o hkp ?_,by omega⟩
      ·simp only[List.mem_singleton];omega
      ·intro y hy;right;simp only[List.mem_singleton] at hy;rw[hy];omega
     clear hkp hmA hmB
     go_upto_region 19 with fail
     obtain⟨w6,hw6⟩:∃ w6,w6=((w5.setCell ⟨nb,2,none⟩ (.int .i64 (st+1))).alloc (.cells #[.bool true,.int .i64 (nv+1),.int .i64 st] 179)):=⟨_,rfl⟩
     rw[<-hw6]
     obtain⟨hmA,hmB,hK6,hW6,hI6,hkw6,hnb6⟩:=Hcl.o w6 hw6
     clear hw6 m0 m1 m2 m3 mf mf2 y0 y1 y2 y3
     generalize w5.heap.size=nb2 at *
     obtain⟨y0,y1,y2,y3⟩:=hI6.cells
     obtain⟨n0,n1,n2,_⟩:=hmB.cells
     have n3:=hmB.lt
     simp only at n0 n1 n2 y0 y1 y2
     have Hc:Hid _:=HRc.o L j ⟨true,nv+1,st⟩ w6 rfl hjl hW6 hK6
     have HmA:Hid (MBox w6 nb ⟨true,nv,st+1⟩):=hmA
     have HW6:Hid (WBox w6 fp p nt cap p' fs.length cap' b L.length nc):=hW6
     have HKw6:Hid (Kp [] w w6):=hkw6
     clear hmA hmB hK6 hW6 hI6 hkw6
     have hl1:=zjh L j ⟨true,nv+1,st⟩
     generalize zQ L j ⟨true,nv+1,st⟩=r1 at *
     obtain⟨c1,L1⟩:=r1
     simp only at hl1 Hc hR
     have Hl1:=zh hl1
     have HR:=zh hR
     clear hl1 hR
     go_wp2_with fail
     refine cM Hc.o ?_
     rintro e7 w7 ⟨rfl,k7,kp7⟩
     have Hk7:Hid (_/\_):=⟨k7,Kp.trans (Kp.mono HKw6.o (by simp)) kp7⟩
     have hm7:=MBox.kp HmA.o kp7 (by simpa using Hnb.o.1)
     have Hw7:Hid (WBox w7 fp p nt cap p' fs.length cap' b L.length nc):=WBox.kp HW6.o kp7 (by simpa using Hne.o)
     clear k7 kp7 n0 n1 n2 n3 y0 y1 y2 y3
     obtain⟨m0,m1,m2,_⟩:=hm7.cells
     have m3:=hm7.lt
     simp only at m0 m1 m2
     clear hm7
     cases c1
     ·have hR2:R=(false,L1):=by rw[HR.o];rfl
      subst hR2
      go_wp2
      go_ret
      exact⟨rfl,Hk7.o⟩
     ·have hR2:R=zQ L1 (i+1) ⟨true,nv,st+1⟩:=by rw[HR.o];rfl
      subst hR2
      have Hc:Hid _:=HRc.o L1 (i+1) ⟨true,nv,st+1⟩ w7 Hl1.o (by omega) Hw7.o Hk7.o.1
      rw[E1.out] at Hc
      go_wp2_with fail
      refine cM Hc.o ?_
      rintro e8 w8 ⟨rfl,k8,kp8⟩
      have Hk8:Hid (_/\_):=⟨k8,Kp.trans Hk7.o.2 kp8⟩
      clear k8 kp8 m0 m1 m2 m3
      go_wp2
      go_ret
      exact⟨rfl,Hk8.o⟩
    by_cases h21:k=21
    ·have hR:R=(if 0<=st - 1 then zQ L (i+1) ⟨true,nv,st - 1⟩ else(false,L)):=by
      rw[HR.o]
      unfold stepJ
      rw[if_neg (by simp only;omega),if_neg (by simp only;omega),if_neg (by simp only;omega),if_neg (by simp only;omega),if_neg (by simp only;omega),if_pos (by simp only;omega)]
     have b17:((k:Int) == 17)=false:=by simp;omega
     have b16:((k:Int) == 16)=false:=by simp;omega
     have b22:((k:Int) == 22)=false:=by simp;omega
     have b18:((k:Int) == 18)=false:=by simp;omega
     have b19:((k:Int) == 19)=false:=by simp;omega
     have b20:((k:Int) == 20)=false:=by simp;omega
     have b21:((k:Int) == 21)=true:=by simp;omega
     clear h17 h16 h22 h18 h19 h20 h21
     have mf2:=mf 2
     have hkp:Kp [nb] w5 (w5.setCell ⟨nb,2,none⟩ (.int .i64 (st - 1))):=Kp.setCell w5 ⟨nb,2,none⟩ (by simp) _
     have Hcl:Hid (∀ (wx:World),wx=(w5.setCell ⟨nb,2,none⟩ (.int .i64 (st - 1)))->MBox wx nb ⟨true,nv,st - 1⟩/\KBox wx b L/\WBox wx fp p nt cap p' fs.length cap' b L.length nc/\Kp [] w wx):=fun wx hwx=>by
      subst hwx
      have hw5:=Kp.size HKw.o
      have hsz:=Hsz.o
      have hap:=Hst.o.apart
      have hk0:=Kp.size HkX.o
      refine⟨Hst.o.own.setT (st - 1),Hst.o.known.kp hkp (by simpa using Ne.symm Hnb.o.1),Hst.o.flow.kp hkp ?_,Kp.then HKw.o hkp ?_⟩
      ·simp only[List.mem_singleton];omega
      ·intro y hy;right;simp only[List.mem_singleton] at hy;rw[hy];omega
     clear hkp
     go_upto_region 22 with fail
     obtain⟨w6,hw6⟩:∃ w6,w6=(w5.setCell ⟨nb,2,none⟩ (.int .i64 (st - 1))):=⟨_,rfl⟩
     rw[<-hw6]
     obtain⟨hmA,hK6,hW6,hkw6⟩:=Hcl.o w6 hw6
     clear hw6 m0 m1 m2 m3 mf mf2 y0 y1 y2 y3
     obtain⟨m0,m1,m2,_⟩:=hmA.cells
     have m3:=hmA.lt
     simp only at m0 m1 m2
     have Hc:Hid _:=HRc.o L (i+1) ⟨true,nv,st - 1⟩ w6 rfl hi hW6 hK6
     rw[E1.out] at Hc
     have Hk6:Hid (KBox w6 b L/\Kp [b] w w6):=⟨hK6,Kp.mono hkw6 (by simp)⟩
     clear hmA hK6 hW6 hkw6
     by_cases hst:0<=st - 1
     ·rw[if_pos hst] at hR
      subst hR
      go_wp2_with fail
      refine cM Hc.o ?_
      rintro e7 w7 ⟨rfl,k7,kp7⟩
      have Hk7:Hid (_/\_):=⟨k7,Kp.trans Hk6.o.2 kp7⟩
      clear k7 kp7 m0 m1 m2 m3
      go_wp2
      go_ret
      exact⟨rfl,Hk7.o⟩
     ·rw[if_neg hst] at hR
      subst hR
      go_wp2
      go_ret
      exact⟨rfl,Hk6.o⟩
    have hR:R=zQ L (i+1) ⟨true,nv,st⟩:=by
     rw[HR.o]
     unfold stepJ
     rw[if_neg (by simp only;omega),if_neg (by simp only;omega),if_neg (by simp only;omega),if_neg (by simp only;omega),if_neg (by simp only;omega),if_neg (by simp only;omega)]
    have b17:((k:Int) == 17)=false:=by simp;omega
    have b16:((k:Int) == 16)=false:=by simp;omega
    have b22:((k:Int) == 22)=false:=by simp;omega
    have b18:((k:Int) == 18)=false:=by simp;omega
    have b19:((k:Int) == 19)=false:=by simp;omega
    have b20:((k:Int) == 20)=false:=by simp;omega
    have b21:((k:Int) == 21)=false:=by simp;omega
    clear h17 h16 h22 h18 h19 h20 h21
    subst hR
    have Hc:Hid _:=HRc.o L (i+1) ⟨true,nv,st⟩ w5 rfl hi Hst.o.flow Hst.o.known
    rw[E1.out] at Hc
    go_wp2_with fail
    refine cM Hc.o ?_
    rintro e6 w6 ⟨rfl,k6,kp6⟩
    have Hk6:Hid (_/\_):=⟨k6,Kp.trans (Kp.mono HKw.o (by simp)) kp6⟩
    clear k6 kp6 m0 m1 m2 m3 mf y0 y1 y2 y3
    go_wp2
    go_ret
    exact⟨rfl,Hk6.o⟩
def zml(i:Nat):UInt8:=if i=0 then 77 else if i=1 then 76 else 49
def zmk(S:ByteArray)(i:Nat)(r:Rs):Rs:=if S.size<=i then r.fail 16 i else if zbb S i=zml i then r else r.fail 15 i
def headR(S:ByteArray):Nat->Nat->Rs->Rs
 | 0,_,r=>r
 | n+1,i,r=>if r.kind=0 then headR S n (i+1) (zmk S i r) else r
def zeh(S:ByteArray)(ts:List ByteArray)(pl:Int)(k:Int)(r:Rs):List ByteArray×Rs:=
 if r.kind=0 then(if 200 < k then(ts,r.fail 17 pl) else if(S.size:Int) - r.pos < k then(ts,r.fail 16 S.size) else(ts++[S.extract r.pos (r.pos+k.toNat)],⟨r.pos+k.toNat,r.kind,r.fat⟩)) else(ts,r)
def textR(S:ByteArray)(s:List ByteArray×Rs):List ByteArray×Rs:=zeh S s.1 s.2.pos (s.2.num S 1).1 (s.2.num S 1).2
def zc7(S:ByteArray):Nat->List ByteArray×Rs->List ByteArray×Rs
 | 0,s=>s
 | n+1,s=>if s.2.kind=0 then zc7 S n (textR S s) else s
def insN(S:ByteArray):Nat->List In×Rs->List In×Rs
 | 0,s=>s
 | n+1,s=>if s.2.kind=0 then insN S n (s.1++[(insR S s.2).1],(insR S s.2).2) else s
def zgx(S:ByteArray)(free sA:Int)(n:Int×Rs):Fn×Rs:=(⟨free,sA,(insN S n.1.toNat ([],n.2)).1⟩,(insN S n.1.toNat ([],n.2)).2)
def funR(S:ByteArray)(r:Rs):Fn×Rs:=zgx S (r.num S 2).1 ((r.num S 2).2.num S 2).1 (((r.num S 2).2.num S 2).2.num S 2)
def funsR(S:ByteArray):Nat->List Fn×Rs->List Fn×Rs
 | 0,s=>s
 | n+1,s=>if s.2.kind=0 then funsR S n (s.1++[(funR S s.2).1],(funR S s.2).2) else s
def zee(S:ByteArray)(r:Rs):Rs:=if r.kind=0/\r.pos < S.size then r.fail 16 r.pos else r
def zf4(c:Cd)(r:Rs):Cd×Int×Int:=if r.kind=0 then(c,0,0) else(⟨[],[]⟩,r.kind,r.fat)
def zfy(S:ByteArray)(ts:List ByteArray)(m:Int×Rs):Cd×Int×Int:=zf4 ⟨ts,(funsR S m.1.toNat ([],m.2)).1⟩ (zee S (funsR S m.1.toNat ([],m.2)).2)
def ziv(S:ByteArray)(n:Int×Rs):Cd×Int×Int:=zfy S (zc7 S n.1.toNat ([],n.2)).1 ((zc7 S n.1.toNat ([],n.2)).2.num S 2)
def ziw(S:ByteArray)(r:Rs):Cd×Int×Int:=ziv S (Rs.num S 2 ⟨3,r.kind,r.fat⟩)
def decR(S:ByteArray):Cd×Int×Int:=if 4000000 < S.size then(⟨[],[]⟩,1,0) else ziw S (headR S 3 0 ⟨0,0,0⟩)
structure FnAt where
 f:Fn
 q:Option Addr
 cap:Nat
def fnRow(fs:List FnAt):List Value:=fs.flatMap fun x=>[.int .i64 x.f.free,.int .i64 x.f.sA,.slice x.q x.f.ins.length x.cap]
def inRow(l:List In):List Value:=l.flatMap fun x=>[.int .i64 x.op,.int .i64 x.a,.int .i64 x.b]
theorem zoc(fs:List FnAt)(x:FnAt):fnRow (fs++[x])=fnRow fs++[.int .i64 x.f.free,.int .i64 x.f.sA,.slice x.q x.f.ins.length x.cap]:=by simp[fnRow]
theorem zn4(l:List In)(x:In):inRow (l++[x])=inRow l++[.int .i64 x.op,.int .i64 x.a,.int .i64 x.b]:=by simp[inRow]
theorem zqy(l:List In)(i:Nat)(hi:i < l.length):(inRow l)[i * 3]? = some (.int .i64 (l[i]'hi).op)/\(inRow l)[i * 3+1]? = some (.int .i64 (l[i]'hi).a)/\(inRow l)[i * 3+2]? = some (.int .i64 (l[i]'hi).b):=by
 induction l generalizing i with
 | nil=>cases hi
 | cons x r ih=>
  cases i with
  | zero=>simp[inRow]
  | succ j=>
   have:=ih j (by simpa using hi)
   have e:inRow (x :: r)=[.int .i64 x.op,.int .i64 x.a,.int .i64 x.b]++inRow r:=by simp[inRow]
   rw[e]
   refine⟨?_,?_,?_⟩
   ·rw[List.getElem?_append_right (by simp;omega)];simpa [show(j+1) * 3 - 3=j * 3 by omega] using this.1
   ·rw[List.getElem?_append_right (by simp;omega)];simpa [show(j+1) * 3+1 - 3=j * 3+1 by omega] using this.2.1
   ·rw[List.getElem?_append_right (by simp;omega)];simpa [show(j+1) * 3+2 - 3=j * 3+2 by omega] using this.2.2
theorem zjx(l:List FnAt)(i:Nat)(hi:i < l.length):(fnRow l)[i * 3]? = some (.int .i64 (l[i]'hi).f.free)/\(fnRow l)[i * 3+1]? = some (.int .i64 (l[i]'hi).f.sA)/\(fnRow l)[i * 3+2]? = some (.slice (l[i]'hi).q (l[i]'hi).f.ins.length (l[i]'hi).cap):=by
 induction l generalizing i with
 | nil=>cases hi
 | cons x r ih=>
  cases i with
  | zero=>simp[fnRow]
  | succ j=>
   have:=ih j (by simpa using hi)
   have e:fnRow (x :: r)=[.int .i64 x.f.free,.int .i64 x.f.sA,.slice x.q x.f.ins.length x.cap]++fnRow r:=by simp[fnRow]
   rw[e]
   refine⟨?_,?_,?_⟩
   ·rw[List.getElem?_append_right (by simp;omega)];simpa [show(j+1) * 3 - 3=j * 3 by omega] using this.1
   ·rw[List.getElem?_append_right (by simp;omega)];simpa [show(j+1) * 3+1 - 3=j * 3+1 by omega] using this.2.1
   ·rw[List.getElem?_append_right (by simp;omega)];simpa [show(j+1) * 3+2 - 3=j * 3+2 by omega] using this.2.2
theorem ownsRow.kp{X:List Nat}{w w':World}{base:Nat}{e:TypeId}{size:Nat}{v:Value}{n:Nat}{xs:List Value}(h:w.ownsRow base e size v n xs)(hk:Kp X w w')(hX:∀ g,v.ownBlock=some g->g∉X):w'.ownsRow base e size v n xs:=by
 obtain⟨h1,h2⟩:=h
 refine⟨h1,?_⟩
 rcases h2 with h2 | ⟨g,cap,cur,hv,hg,hh,r⟩
 ·exact Or.inl h2
 ·refine Or.inr ⟨g,cap,cur,hv,hg,?_,r⟩
  rw[hk.block g (sz hh) (hX g (by rw[hv];rfl))]
  exact hh
theorem InsIn.kp{X:List Nat}{w w':World}{p:Option Addr}{l:List In}(h:InsIn w p l)(hk:Kp X w w')(hX:∀ b,p=some b->b.block∉X):InsIn w' p l:=
 ⟨h.len,fun i hi=>by
  obtain⟨b,o,h1,h2,h3,h4,h5⟩:=h.get i hi
  have hb:=hX _ h1
  exact⟨b,o,h1,lL h2 hk.size,hk.cell h3 hb,hk.cell h4 hb,hk.cell h5 hb⟩⟩
theorem zb4(g j:Nat):(⟨g,0,none⟩:Addr).add j=⟨g,j,none⟩:=by unfold Addr.add;split <;> simp_all
theorem zqq{w:World}{base:Nat}{v:Value}{l:List In}(h:w.ownsRow base 44 3 v l.length (inRow l))(hl:l.length<=65536):∃ q cap,v=.slice q l.length cap/\InsIn w q l/\∀ b,q=some b->v.ownBlock=some b.block/\base<=b.block/\b.block < w.heap.size:=by
 rcases h.2 with⟨rfl,h0⟩ | ⟨g,cap,cur,rfl,h1,h2,h3,h4,h5,h6⟩
 ·have:l=[]:=List.eq_nil_of_length_eq_zero h0
  subst this
  exact⟨none,0,rfl,⟨by simp,fun i hi=>by cases hi⟩,fun b hb=>by cases hb⟩
 ·have hg:=(sz h2)
  refine⟨some ⟨g,0,none⟩,cap,rfl,⟨by omega,fun i hi=>?_⟩,fun b hb=>by cases hb;exact⟨rfl,h1,hg⟩⟩
  obtain⟨a0,a1,a2⟩:=zqy l i hi
  have c0:=h.cells (g:=g) rfl _ _ a0
  have c1:=h.cells (g:=g) rfl _ _ a1
  have c2:=h.cells (g:=g) rfl _ _ a2
  exact⟨g,0,rfl,hg,by rw[zb4] at c0;simpa using c0,by rw[zb4] at c1;simpa using c1,by rw[zb4] at c2;simpa using c2⟩
theorem zkx{w:World}{base:Nat}{v:Value}{l:List ByteArray}(h:w.ownsRow base 9 1 v l.length (l.map Value.string))(hl:l.length<=65536):∃ q cap,v=.slice q l.length cap/\zX w q l:=by
 rcases h.2 with⟨rfl,h0⟩ | ⟨g,cap,cur,rfl,h1,h2,h3,h4,h5,h6⟩
 ·have:l=[]:=List.eq_nil_of_length_eq_zero h0
  subst this
  exact⟨none,0,rfl,⟨by simp,fun i hi=>by cases hi⟩⟩
 ·have hg:=(sz h2)
  refine⟨some ⟨g,0,none⟩,cap,rfl,⟨by omega,fun i hi=>?_⟩⟩
  have c0:=h.cells (g:=g) rfl i (.string (l[i]'hi)) (by simp[hi])
  exact⟨g,0,rfl,hg,by rw[zb4] at c0;simpa using c0⟩
theorem zn8{w:World}{base:Nat}{v:Value}{l:List FnAt}(h:w.ownsRow base 47 3 v l.length (fnRow l))(hl:l.length<=65536)(hI:∀ x∈l,InsIn w x.q x.f.ins):∃ q cap,v=.slice q l.length cap/\zF w q (l.map FnAt.f):=by
 rcases h.2 with⟨rfl,h0⟩ | ⟨g,cap,cur,rfl,h1,h2,h3,h4,h5,h6⟩
 ·have:l=[]:=List.eq_nil_of_length_eq_zero h0
  subst this
  exact⟨none,0,rfl,⟨by simp,fun i hi=>by cases hi⟩⟩
 ·have hg:=(sz h2)
  refine⟨some ⟨g,0,none⟩,cap,rfl,⟨by simp;omega,fun i hi=>?_⟩⟩
  have hi2:i < l.length:=by simpa using hi
  obtain⟨a0,a1,a2⟩:=zjx l i hi2
  have c0:=h.cells (g:=g) rfl _ _ a0
  have c1:=h.cells (g:=g) rfl _ _ a1
  have c2:=h.cells (g:=g) rfl _ _ a2
  refine⟨g,0,(l[i]'hi2).q,(l[i]'hi2).cap,rfl,hg,⟨by rw[zb4] at c0;simpa using c0,by rw[zb4] at c1;simpa using c1,by rw[zb4] at c2;simpa using c2⟩,?_⟩
  have:=hI _ (List.getElem_mem hi2)
  simpa using this
structure Apart(B:Nat)(vt vf:Value)(fs:List FnAt)(g:Nat):Prop where
 le:B+4<=g
 t:vt.ownBlock≠some g
 f:vf.ownBlock≠some g
 q:∀ x∈fs,∀ b,x.q=some b->b.block≠g
end Go.Proofs.YtkcmachfagcnaaaGreatDoor.C12
