/- Part of Greater. -/
import Derived.Test.YtkcmachfagcnaaaGreatDoorB37
import Derived.Test.YtkcmachfagcnaaaGreatDoorB35
set_option maxHeartbeats 8000000
set_option maxRecDepth 100000
namespace Go.Proofs.YtkcmachfagcnaaaGreatDoor
open Go.RowKit Go.Deep Go.IntWalk
open C12 (Cd Fn In zT)
section
variable{X:Fx}{w:World}{g:Pg}{m:AM}{R:Int->Int->Prop}
theorem zqd(h:J X w g m R)(n:Int):Calls Tryz.prog 111 #[.pointer (some ⟨X.mm,0,none⟩),sg [110,111,116],.int .i64 n] w fun e w'=>zP X w g m (.give (truth (decide (n=0)))) e w':=by
 obtain⟨w1,hw1,HB,HJ⟩:=pre1W h (.cells #[.bool false,.int .i64 0] 67)
 clear h
 generalize hA:Act1.give (truth (decide (n=0)))=act
 have HA:=zh hA
 clear hA
 obtain⟨bb,hbb⟩:∃ bb:Bool,bb=decide (n=0):=⟨_,rfl⟩
 have hb2:(n == 0)=bb:=by rw[hbb];rfl
 have HT:Hid (Calls Tryz.prog 89 #[.bool bb] w1 fun e w'=>e=.returned (.agg #[.bool false,.int .i64 (if bb then 1 else 0)])/\Kp [] w1 w'):=zb2 _ _
 rw[<-hbb] at HA
 clear hbb
 generalize hx:(if bb=true then(1:Int) else 0)=x at *
 have Hx:=zh hx
 clear hx
 unfold sg
 go_enter Tryz.func111,Tryz.ntmps111
 go_wp2_with fail
 rw[<-hw1.out]
 refine cM HT.o ?_
 rintro e w2 ⟨rfl,hw2⟩
 obtain⟨mv,a1,o1,hwc⟩:=HB.o
 have hbz:=zad a1 hw2
 obtain⟨y0,y1,z0,z1,cl⟩:=zaa hbz
 obtain⟨d0,d1,_⟩:=zaa (zae hbz (.bool false) (.int .i64 x))
 have Q:Hid (zP X w g m act (.returned (.tuple #[.agg #[.bool false,.int .i64 x],.int .i64 0])) ((w2.setCell ⟨w.heap.size,0,none⟩ (.bool false)).setCell ⟨w.heap.size,1,none⟩ (.int .i64 x))):=by
  unfold Hid
  rw[<-HA.o]
  have h9:=fin2 (HJ.o.kp hw2) (mv.trans (Mv.zk hw2)) ⟨lL o1.1 hw2.size,o1.2⟩ (Nat.le_refl _) hwc (.bool false) (.int .i64 x)
  have e9:truth bb=num x:=by unfold truth;rw[Hx.o]
  rw[e9]
  exact za4 (p:=⟨false,x⟩) (zb5 _ _) (zco (by have:=Hx.o;cases bb <;> simp at this <;> omega)) h9
 clear hbz a1 o1 mv hwc hw2
 go_wp2_with fail
 exact bR (by simp[results,Tryz.results111,go_sem,d0,d1]) Q.o
theorem zqb(h:J X w g m R)(hL:LibIn X.wc)(hn:0 < m.s.cA.length)(hnx:m.next+1<=1000000000)(n:Int)(hb:-1000000000<=n/\n<=1000000000):Calls Tryz.prog 111 #[.pointer (some ⟨X.mm,0,none⟩),sg [115,116,114],.int .i64 n] w fun e w'=>zP X w g m (.make (zTT (strA n))) e w':=by
 obtain⟨w1,hw1,HB,HJ⟩:=pre1W h (.cells #[.bool false,.int .i64 0] 67)
 clear h
 generalize hA:Act1.make (zTT (strA n))=act
 have HA:=zh hA
 clear hA
 have HLi:Hid _:=fun wx (hx:Kp [] w1 wx)=>hL.below ((HJ.o.kp hx).bl)
 obtain⟨S,hS⟩:∃ S:ByteArray,S=⟨(Lib.itoa n).toArray⟩:=⟨_,rfl⟩
 have hSs:S.size<=100:=by
  have:=Lib.itoa_length_le n (by omega) (by omega)
  rw[hS]
  simp only[ByteArray.size,List.size_toArray]
  omega
 have hSl:S.data.toList=Lib.itoa n:=by rw[hS]
 obtain⟨S2,hS2⟩:∃ S:ByteArray,S=⟨(strA n).toArray⟩:=⟨_,rfl⟩
 have H1:Hid (∀ wx,Kp [] w1 wx->Calls Tryz.prog 121 #[.int .i64 n] wx fun e w'=>e=.returned (.string S)/\Kp [] w1 w'):=fun wx hx=>cM (zti wx (HLi.o wx hx) n hb) (fun e w' q=>⟨by rw[hS];exact q.1,hx.trans (Kp.zB q.2)⟩)
 have H2:Hid (∀ wx,Kp [] w1 wx->Calls Tryz.prog 120 #[.string S,.string ⟨#[45]⟩,.string ⟨#[126]⟩,.int .i64 1] wx fun e w'=>e=.returned (.string S2)/\Kp [] w1 w'):=fun wx hx=>cM (zk5 wx (HLi.o wx hx) S hSs) (fun e w' q=>⟨by rw[hS2,<-zve,<-hSl];exact q.1,hx.trans (Kp.zB q.2)⟩)
 have HS2:Hid (S2.data.toList=strA n/\S2.size<=200):=by
  rw[hS2]
  exact⟨by simp,by have:=zlz hb;simpa [ByteArray.size] using this⟩
 have HTx:Hid _:=fun wx (hx:Kp [] w1 wx)=>ze0 (HJ.o.kp hx) hn hnx S2 HS2.o.2
 clear hS hS2 hSl hSs hb hn hnx
 unfold sg
 go_enter Tryz.func111,Tryz.ntmps111
 go_wp2_with fail
 rw[<-hw1.out]
 refine cM (H1.o _ kr) ?_
 rintro e w2 ⟨rfl,hw2⟩
 go_wp2_with fail
 refine cM (H2.o _ hw2) ?_
 rintro e w3 ⟨rfl,hw3⟩
 go_wp2_with fail
 refine cM (HTx.o _ hw3) ?_
 intro e w4 q
 obtain⟨mv,a1,o1,hwc⟩:=HB.o
 obtain⟨pp,pn,pf,rfl,hb9,hQ⟩:=q.lift (w:=w) (g:=g) (b:=w.heap.size) (mv.trans (Mv.zk hw3)) (zad a1 hw3) ⟨lL o1.1 hw3.size,o1.2⟩ (by omega) hwc
 obtain⟨y0,y1,z0,z1,cl⟩:=zaa hb9
 obtain⟨d0,d1,_⟩:=zaa (zae hb9 (.bool pp) (.int .i64 pn))
 rw[HS2.o.1,HA.o] at hQ
 have Q:=zh hQ
 clear a1 o1 mv hwc hb9 hQ q hw2 hw3
 go_wp2_with fail
 exact bR (by simp[results,Tryz.results111,go_sem,d0,d1]) Q.o
theorem zqe(h:J X w g m R)(hn:0 < m.s.cA.length)(hnx:m.next+1<=1000000000)(n:Int):Calls Tryz.prog 111 #[.pointer (some ⟨X.mm,0,none⟩),sg [99,104,114],.int .i64 n] w fun e w'=>zP X w g m (if n < 0\/255 < n then .raise (-5) else .make (zTT [UInt8.ofNat n.toNat])) e w':=by
 obtain⟨w1,hw1,HB,HJ⟩:=pre1W h (.cells #[.bool false,.int .i64 0] 67)
 clear h
 generalize hA:(if n < 0\/255 < n then Act1.raise (-5) else .make (zTT [UInt8.ofNat n.toNat]))=act
 have HA:=zh hA
 clear hA
 have Hn:Hid (_/\_):=⟨hn,hnx⟩
 clear hn hnx
 unfold sg
 go_enter Tryz.func111,Tryz.ntmps111
 go_upto_region 6 with fail
 rw[<-hw1.out]
 by_cases c1:n < 0
 ·rw[if_pos (Or.inl c1)] at HA
  obtain⟨⟨y0,y1,z0,z1,cl⟩,d0,d1,Q⟩:=endF1 HB.o HJ.o kr (.inr ⟨HA.o.symm,by decide,by decide⟩)
  go_wp2_with fail
  exact bR (by simp[results,Tryz.results111,go_sem,d0,d1]) Q.o
 ·by_cases c2:(255:Int) < n
  ·rw[if_pos (Or.inr c2)] at HA
   obtain⟨⟨y0,y1,z0,z1,cl⟩,d0,d1,Q⟩:=endF1 HB.o HJ.o kr (.inr ⟨HA.o.symm,by decide,by decide⟩)
   go_wp2_with fail
   exact bR (by simp[results,Tryz.results111,go_sem,d0,d1]) Q.o
  ·rw[if_neg (by omega)] at HA
   obtain⟨N,rfl⟩:∃ N:Nat,n=(N:Int):=⟨n.toNat,by omega⟩
   rw[Int.toNat_natCast] at HA
   have hw8:IntKind.u8.wrap (N:Int)=(N:Int):=by rw[IntKind.wrap_u8];omega
   have hNt:=UInt8.toNat_ofNat_of_lt' (by show N < 256;omega)
   have hcv:(convert 62 9 (.slice (some ⟨w1.heap.size,0,none⟩) 1 1)).run Tryz.prog (w1.alloc (.cells #[.int .u8 (N:Int)] 5))=.ok (.string ⟨#[UInt8.ofNat N]⟩) (w1.alloc (.cells #[.int .u8 (N:Int)] 5)):=by
    have h:=run_convert_bytes_back (P:=Tryz.prog) (w1.alloc (.cells #[.int .u8 (N:Int)] 5)) 62 9 5 ⟨w1.heap.size,0,none⟩ 1 [UInt8.ofNat N] under62 Tryz.underlying5 Tryz.underlying9 (by
     intro j hj
     obtain rfl:j=0:=by simpa using hj
     have e:=zab w1 (.cells #[.int .u8 (N:Int)] 5)
     show(w1.alloc (.cells #[.int .u8 (N:Int)] 5)).cell? (Addr.add ⟨w1.heap.size,0,none⟩ 0)=some (.int .u8 ((UInt8.ofNat N).toNat:Int))
     rw[hNt,zf7]
     show(w1.alloc (.cells #[.int .u8 (N:Int)] 5)).cell? ⟨w1.heap.size,0,none⟩=_
     rw[zcn e]
     rfl)
    exact h
   have HTx:Hid (Calls Tryz.prog 86 #[.pointer (some ⟨X.mm,0,none⟩),.string ⟨#[UInt8.ofNat N]⟩] (w1.alloc (.cells #[.int .u8 (N:Int)] 5)) fun e w'=>zP X (w1.alloc (.cells #[.int .u8 (N:Int)] 5)) g m (.make (zTT (⟨#[UInt8.ofNat N]⟩:ByteArray).data.toList)) e w'):=ze0 (HJ.o.kp kA) Hn.o.1 Hn.o.2 ⟨#[UInt8.ofNat N]⟩ (by show(1:Nat)<=200;decide)
   have Hk2:Hid (Kp [] w1 (w1.alloc (.cells #[.int .u8 (N:Int)] 5))):=kA
   clear hNt
   obtain⟨S,hS⟩:∃ S:ByteArray,S=⟨#[UInt8.ofNat N]⟩:=⟨_,rfl⟩
   rw[<-hS] at hcv HTx
   have HS:Hid (S.data.toList=[UInt8.ofNat N]):=by
    unfold Hid
    rw[hS]
   clear hS
   go_wp2_with fail
   refine cM HTx.o ?_
   intro e w4 q
   obtain⟨mv,a1,o1,hwc⟩:=HB.o
   obtain⟨pp,pn,pf,rfl,hb9,hQ⟩:=q.lift (w:=w) (g:=g) (b:=w.heap.size) (mv.trans (Mv.zk Hk2.o)) (zad a1 Hk2.o) ⟨lL o1.1 Hk2.o.size,o1.2⟩ (by omega) hwc
   obtain⟨y0,y1,z0,z1,cl⟩:=zaa hb9
   obtain⟨d0,d1,_⟩:=zaa (zae hb9 (.bool pp) (.int .i64 pn))
   rw[HS.o,HA.o] at hQ
   have Q:=zh hQ
   clear a1 o1 mv hwc hb9 hQ q hcv hw8
   go_wp2_with fail
   exact bR (by simp[results,Tryz.results111,go_sem,d0,d1]) Q.o
theorem zr0(h:J X w g m R)(hd:okD X.cd m.D)(hL:LibIn X.wc)(hn:0 < m.s.cA.length)(hnx:m.next+1<=1000000000)(a b:Cl)(hab:zI R a b)(hwf:wfC a)(hok:okC b)(htop:a=g.s.top 0/\b=m.s.top 0):Calls Tryz.prog 99 #[.pointer (some ⟨X.mm,0,none⟩),sg [115,105,122,101],.agg #[.bool a.p,.int .i64 a.n]] w fun e w'=>zP X w g m (if thK m.D b 2 then .give (num (tagA m.D b.n)) else .wrong) e w':=by
 obtain⟨ap,an⟩:=a
 simp only
 obtain⟨w1,hw1,HB,HJ⟩:=pre2W h (.cells #[.bool ap,.int .i64 an] 67) (.cells #[.bool false,.int .i64 0] 67)
 have HF:=hf2 HB.o HJ.o
 have Hd:=zh hd
 have HLi:=zh hL
 have Hn:Hid (_/\_):=⟨hn,hnx⟩
 have Hab:Hid (zI R ⟨ap,an⟩ b/\wfC ⟨ap,an⟩/\okC b/\(⟨ap,an⟩:Cl)=g.s.top 0/\b=m.s.top 0):=⟨hab,hwf,hok,htop⟩
 clear hd hL h hab hn hnx hwf hok htop
 generalize hA:(if thK m.D b 2 then .give (num (tagA m.D b.n)) else .wrong:Act1)=act
 have HA:=zh hA
 clear hA
 unfold sg
 go_enter Tryz.func99,Tryz.ntmps99
 go_upto_region 11 with fail
 rw[<-hw1.out]
 have HI:Hid (∀ wx,Kp [] w1 wx->_):=zbl HJ.o ⟨ap,an⟩ b Hab.o.1 2
 obtain⟨⟨f0,f1,f2⟩,f3,f4⟩:=HF.o w1 kr
 cases k1:thK m.D b 2 with
 | false=>
  rw[k1] at HI HA
  rw[if_neg Bool.false_ne_true] at HA
  go_wp2_with fail
  refine cM (HI.o _ kr) ?_
  rintro e w2 ⟨rfl,hw2⟩
  clear f0 f1 f2 f3 f4
  obtain⟨⟨y0,y1,z0,z1,cl⟩,d0,d1,Q⟩:=endF2 HB.o HJ.o hw2 (.inl ⟨HA.o.symm,rfl⟩)
  clear k1 hw2
  go_wp2_with fail
  exact bR (by simp[results,Tryz.results99,go_sem,d0,d1]) Q.o
 | true=>
  rw[k1] at HI HA
  rw[if_pos rfl] at HA
  have hbp:=(zat k1).1
  obtain⟨hap,u,hu,pf,hpf,hpg⟩:=HJ.o.views Hab.o.1 hbp
  simp only at hap
  have Hu:=zh hu
  have HC:Hid (∀ wr,Kp [] w1 wr->∀ wx,Kp [] wr wx->Calls Tryz.prog 78 #[.pointer (some ⟨X.hp,0,none⟩),.int .i64 an] wx fun e w'=>e=.returned (.int .i64 (tagA m.D b.n))/\Kp [] wr w'):=fun wr hr wx hx=>by
   have:=(hpg wr hr wx hx).2.1
   rw[show u.tag=tagA m.D b.n by unfold tagA;rw[hu];rfl] at this
   exact this
  have Hsm:Hid (0<=(tagA m.D b.n:Int)/\(tagA m.D b.n:Int)<=65535):=by
   have hou:=Hd.o _ _ hu
   have:=zbr Hd.o hu ((zat k1).2.elim (fun t ht=>by rw[hu] at ht;cases ht.1;exact ht.2))
   exact⟨by omega,by omega⟩
  clear hbp hu hpf hpg
  subst hap
  generalize tagA m.D b.n=tg at *
  go_wp2_with fail
  refine cM (HI.o _ kr) ?_
  rintro e w2 ⟨rfl,hw2⟩
  clear f0 f1 f2 f3 f4
  have hJ2:=HJ.o.kp hw2
  have HR:Hid (∀ wx,Kp [] w2 wx->Rd X (w.heap.size) (.cells #[.bool true,.int .i64 an] 67) wx):=fun wx hx=>⟨zad (zad HB.o.2.1 hw2) hx,_,hJ2.box.kp hx (by simp),rfl⟩
  have Hw2:=zh hw2
  have Hmm:Hid (X.mm≠w.heap.size+1):=fun e=>HB.o.2.2.2.2.1.2 (by rw[<-e];exact za3)
  have HN:Hid (∀ wx,Kp [] w2 wx->Calls Tryz.prog 85 #[.int .i64 tg] wx fun e w'=>e=.returned (.agg #[.bool false,.int .i64 tg])/\Kp [] w2 w'):=fun wx hx=>cM (za0 wx tg) (fun e w' q=>⟨q.1,hx.trans q.2⟩)
  have HT:Hid (∀ wx,Kp [] w2 wx->_):=HC.o w2 hw2
  clear hJ2 hw2
  go_upto_region 14 with fail
  refine zao (C:=fun wx=>Rd X (w.heap.size) (.cells #[.bool true,.int .i64 an] 67) wx) (by kernel_rfl) ?_
  refine qA 0 rfl ?_
  apply xI
  (intro wx hwx;go_simp <;> rfl)
  refine qA 1 rfl ?_
  apply xI
  (intro wx hwx;go_simp <;> rfl)
  refine qA 2 rfl ?_
  apply xI
  (intro wx hwx;go_simp <;> rfl)
  refine qA 3 rfl ?_
  apply xI
  (intro wx hwx;obtain⟨x1,x2⟩:=Rd.hp hwx;obtain⟨f0,f1,f2,f3,f4⟩:=zaa hwx.1;go_simp <;> rfl)
  refine qA 4 rfl ?_
  apply xI
  (intro wx hwx;go_simp <;> rfl)
  refine qA 5 rfl ?_
  apply xI
  (intro wx hwx;obtain⟨x1,x2⟩:=Rd.hp hwx;obtain⟨f0,f1,f2,f3,f4⟩:=zaa hwx.1;go_simp <;> rfl)
  refine oA 6 (HR.o _ (Kp.refl _ _).drew) rfl (fun K hK=>?_)
  go_simp
  refine cM (HT.o _ (Kp.refl _ _).drew) ?_
  rintro e8 w8 ⟨rfl,hw8⟩
  refine hK _ _ ?_
  clear hK K
  refine oA 7 (HR.o _ hw8) rfl (fun K hK=>?_)
  go_simp
  refine cM (HN.o _ hw8) ?_
  rintro e9 w9 ⟨rfl,hw9⟩
  refine hK _ _ ?_
  clear hK K
  have hk9:=Hw2.o.trans hw9
  obtain⟨mv,a1,o1,a2,o2,hwc⟩:=HB.o
  have hbz:=zad a2 hk9
  have hC9:Hid _:=HR.o _ hw9
  have HC9:Hid (Rd X (w.heap.size) (.cells #[.bool true,.int .i64 an] 67) ((w9.setCell ⟨w.heap.size+1,0,none⟩ (.bool false)).setCell ⟨w.heap.size+1,1,none⟩ (.int .i64 tg))):=(HR.o _ hw9).set2 (by omega) Hmm.o _ _
  obtain⟨y0,y1,z0,z1,cl⟩:=zaa hbz
  obtain⟨d0,d1,_⟩:=zaa (zae hbz (.bool false) (.int .i64 tg))
  have Q:Hid (zP X w g m act (.returned (.tuple #[.agg #[.bool false,.int .i64 tg],.int .i64 0])) ((w9.setCell ⟨w.heap.size+1,0,none⟩ (.bool false)).setCell ⟨w.heap.size+1,1,none⟩ (.int .i64 tg))):=by
   unfold Hid
   rw[<-HA.o]
   exact za4 (p:=⟨false,tg⟩) (zb5 _ _) (zco (by have:=Hsm.o;omega)) (fin2 (HJ.o.kp hk9) (mv.trans (Mv.zk hk9)) ⟨lL o2.1 hk9.size,o2.2⟩ (by omega) hwc _ _)
  clear a1 o1 a2 o2 mv hwc hbz hk9 hw8 hw9 k1
  refine oA 8 hC9.out rfl (fun K hK=>?_)
  go_simp
  refine hK _ _ ?_
  clear hK K
  refine oA 9 HC9.o rfl (fun K hK=>?_)
  go_simp
  refine hK _ _ ?_
  clear hK K
  refine zag HC9.o (by kernel_rfl) ?_
  go_simp
  clear hC9
  go_wp2_with fail
  exact bR (by simp[results,Tryz.results99,go_sem,d0,d1]) Q.o
theorem zru(h:J X w g m R)(hd:okD X.cd m.D)(hL:LibIn X.wc)(hn:0 < m.s.cA.length)(hnx:m.next+1<=1000000000)(a b:Cl)(hab:zI R a b)(hwf:wfC a)(hok:okC b)(htop:a=g.s.top 0/\b=m.s.top 0):Calls Tryz.prog 99 #[.pointer (some ⟨X.mm,0,none⟩),sg [108,101,110,103,116,104],.agg #[.bool a.p,.int .i64 a.n]] w fun e w'=>zP X w g m (if isC m.D b 1 then .give (num (lenA m.D b.n)) else .wrong) e w':=by
 obtain⟨ap,an⟩:=a
 simp only
 obtain⟨w1,hw1,HB,HJ⟩:=pre2W h (.cells #[.bool ap,.int .i64 an] 67) (.cells #[.bool false,.int .i64 0] 67)
 have HF:=hf2 HB.o HJ.o
 have Hd:=zh hd
 have HLi:=zh hL
 have Hn:Hid (_/\_):=⟨hn,hnx⟩
 have Hab:Hid (zI R ⟨ap,an⟩ b/\wfC ⟨ap,an⟩/\okC b/\(⟨ap,an⟩:Cl)=g.s.top 0/\b=m.s.top 0):=⟨hab,hwf,hok,htop⟩
 clear hd hL h hab hn hnx hwf hok htop
 generalize hA:(if isC m.D b 1 then .give (num (lenA m.D b.n)) else .wrong:Act1)=act
 have HA:=zh hA
 clear hA
 unfold sg
 go_enter Tryz.func99,Tryz.ntmps99
 go_upto_region 17 with fail
 rw[<-hw1.out]
 have HI:Hid (∀ wx,Kp [] w1 wx->_):=zc0 HJ.o ⟨ap,an⟩ b Hab.o.1 1
 obtain⟨⟨f0,f1,f2⟩,f3,f4⟩:=HF.o w1 kr
 cases k1:isC m.D b 1 with
 | false=>
  rw[k1] at HI HA
  rw[if_neg Bool.false_ne_true] at HA
  go_wp2_with fail
  refine cM (HI.o _ kr) ?_
  rintro e w2 ⟨rfl,hw2⟩
  clear f0 f1 f2 f3 f4
  obtain⟨⟨y0,y1,z0,z1,cl⟩,d0,d1,Q⟩:=endF2 HB.o HJ.o hw2 (.inl ⟨HA.o.symm,rfl⟩)
  clear k1 hw2
  go_wp2_with fail
  exact bR (by simp[results,Tryz.results99,go_sem,d0,d1]) Q.o
 | true=>
  rw[k1] at HI HA
  rw[if_pos rfl] at HA
  have hbp:=(zcf k1).1
  obtain⟨hap,u,hu,pf,hpf,hpg⟩:=HJ.o.views Hab.o.1 hbp
  simp only at hap
  have Hu:=zh hu
  have HC:Hid (∀ wr,Kp [] w1 wr->∀ wx,Kp [] wr wx->Calls Tryz.prog 76 #[.pointer (some ⟨X.hp,0,none⟩),.int .i64 an] wx fun e w'=>e=.returned (.int .i64 ((lenA m.D b.n:Nat)))/\Kp [] wr w'):=fun wr hr wx hx=>by
   have:=(hpg wr hr wx hx).1
   rw[show u.fs.length=lenA m.D b.n by unfold lenA;rw[hu];rfl] at this
   exact this
  have Hsm:Hid (0<=((lenA m.D b.n:Nat):Int)/\((lenA m.D b.n:Nat):Int)<=65535):=by
   have hou:=Hd.o _ _ hu
   have:=hou.len
   rw[show u.fs.length=lenA m.D b.n by unfold lenA;rw[hu];rfl] at this
   exact⟨by omega,by omega⟩
  clear hbp hu hpf hpg
  subst hap
  generalize ((lenA m.D b.n:Nat):Int)=tg at *
  go_wp2_with fail
  refine cM (HI.o _ kr) ?_
  rintro e w2 ⟨rfl,hw2⟩
  clear f0 f1 f2 f3 f4
  have hJ2:=HJ.o.kp hw2
  have HR:Hid (∀ wx,Kp [] w2 wx->Rd X (w.heap.size) (.cells #[.bool true,.int .i64 an] 67) wx):=fun wx hx=>⟨zad (zad HB.o.2.1 hw2) hx,_,hJ2.box.kp hx (by simp),rfl⟩
  have Hw2:=zh hw2
  have Hmm:Hid (X.mm≠w.heap.size+1):=fun e=>HB.o.2.2.2.2.1.2 (by rw[<-e];exact za3)
  have HN:Hid (∀ wx,Kp [] w2 wx->Calls Tryz.prog 85 #[.int .i64 tg] wx fun e w'=>e=.returned (.agg #[.bool false,.int .i64 tg])/\Kp [] w2 w'):=fun wx hx=>cM (za0 wx tg) (fun e w' q=>⟨q.1,hx.trans q.2⟩)
  have HT:Hid (∀ wx,Kp [] w2 wx->_):=HC.o w2 hw2
  clear hJ2 hw2
  go_upto_region 19 with fail
  refine zao (C:=fun wx=>Rd X (w.heap.size) (.cells #[.bool true,.int .i64 an] 67) wx) (by kernel_rfl) ?_
  refine qA 0 rfl ?_
  apply xI
  (intro wx hwx;go_simp <;> rfl)
  refine qA 1 rfl ?_
  apply xI
  (intro wx hwx;go_simp <;> rfl)
  refine qA 2 rfl ?_
  apply xI
  (intro wx hwx;go_simp <;> rfl)
  refine qA 3 rfl ?_
  apply xI
  (intro wx hwx;obtain⟨x1,x2⟩:=Rd.hp hwx;obtain⟨f0,f1,f2,f3,f4⟩:=zaa hwx.1;go_simp <;> rfl)
  refine qA 4 rfl ?_
  apply xI
  (intro wx hwx;go_simp <;> rfl)
  refine qA 5 rfl ?_
  apply xI
  (intro wx hwx;obtain⟨x1,x2⟩:=Rd.hp hwx;obtain⟨f0,f1,f2,f3,f4⟩:=zaa hwx.1;go_simp <;> rfl)
  refine oA 6 (HR.o _ (Kp.refl _ _).drew) rfl (fun K hK=>?_)
  go_simp
  refine cM (HT.o _ (Kp.refl _ _).drew) ?_
  rintro e8 w8 ⟨rfl,hw8⟩
  refine hK _ _ ?_
  clear hK K
  refine oA 7 (HR.o _ hw8) rfl (fun K hK=>?_)
  go_simp
  refine cM (HN.o _ hw8) ?_
  rintro e9 w9 ⟨rfl,hw9⟩
  refine hK _ _ ?_
  clear hK K
  have hk9:=Hw2.o.trans hw9
  obtain⟨mv,a1,o1,a2,o2,hwc⟩:=HB.o
  have hbz:=zad a2 hk9
  have hC9:Hid _:=HR.o _ hw9
  have HC9:Hid (Rd X (w.heap.size) (.cells #[.bool true,.int .i64 an] 67) ((w9.setCell ⟨w.heap.size+1,0,none⟩ (.bool false)).setCell ⟨w.heap.size+1,1,none⟩ (.int .i64 tg))):=(HR.o _ hw9).set2 (by omega) Hmm.o _ _
  obtain⟨y0,y1,z0,z1,cl⟩:=zaa hbz
  obtain⟨d0,d1,_⟩:=zaa (zae hbz (.bool false) (.int .i64 tg))
  have Q:Hid (zP X w g m act (.returned (.tuple #[.agg #[.bool false,.int .i64 tg],.int .i64 0])) ((w9.setCell ⟨w.heap.size+1,0,none⟩ (.bool false)).setCell ⟨w.heap.size+1,1,none⟩ (.int .i64 tg))):=by
   unfold Hid
   rw[<-HA.o]
   exact za4 (p:=⟨false,tg⟩) (zb5 _ _) (zco (by have:=Hsm.o;omega)) (fin2 (HJ.o.kp hk9) (mv.trans (Mv.zk hk9)) ⟨lL o2.1 hk9.size,o2.2⟩ (by omega) hwc _ _)
  clear a1 o1 a2 o2 mv hwc hbz hk9 hw8 hw9 k1
  refine oA 8 hC9.out rfl (fun K hK=>?_)
  go_simp
  refine hK _ _ ?_
  clear hK K
  refine oA 9 HC9.o rfl (fun K hK=>?_)
  go_simp
  refine hK _ _ ?_
  clear hK K
  refine zag HC9.o (by kernel_rfl) ?_
  go_simp
  clear hC9
  go_wp2_with fail
  exact bR (by simp[results,Tryz.results99,go_sem,d0,d1]) Q.o
theorem zrv(h:J X w g m R)(hd:okD X.cd m.D)(hL:LibIn X.wc)(hn:0 < m.s.cA.length)(hnx:m.next+1<=1000000000)(a b:Cl)(hab:zI R a b)(hwf:wfC a)(hok:okC b)(htop:a=g.s.top 0/\b=m.s.top 0):Calls Tryz.prog 99 #[.pointer (some ⟨X.mm,0,none⟩),sg [97,114,114,97,121],.agg #[.bool a.p,.int .i64 a.n]] w fun e w'=>zP X w g m (zf6 m.D b) e w':=by
 obtain⟨ap,an⟩:=a
 simp only
 obtain⟨w1,hw1,HB,HJ⟩:=pre2W h (.cells #[.bool ap,.int .i64 an] 67) (.cells #[.bool false,.int .i64 0] 67)
 have HF:=hf2 HB.o HJ.o
 have Hd:=zh hd
 have HLi:=zh hL
 have Hn:Hid (_/\_):=⟨hn,hnx⟩
 have Hab:Hid (zI R ⟨ap,an⟩ b/\wfC ⟨ap,an⟩/\okC b/\(⟨ap,an⟩:Cl)=g.s.top 0/\b=m.s.top 0):=⟨hab,hwf,hok,htop⟩
 clear hd hL h hab hn hnx hwf hok htop
 generalize hA:(zf6 m.D b:Act1)=act
 have HA:=zh hA
 clear hA
 unfold sg
 go_enter Tryz.func99,Tryz.ntmps99
 go_upto_region 26 with fail
 rw[<-hw1.out]
 have HC:Hid _:=zr5 HJ.o Hd.o Hn.o.1 Hn.o.2 ⟨ap,an⟩ b Hab.o.1 Hab.o.2.2.2
 obtain⟨⟨f0,f1,f2⟩,f3,f4⟩:=HF.o w1 kr
 go_wp2_with fail
 refine cM HC.o ?_
 intro e w4 q
 clear f0 f1 f2 f3 f4
 obtain⟨mv,a1,o1,a2,o2,hwc⟩:=HB.o
 obtain⟨pp,pn,pf9,rfl,hb9,hQ⟩:=q.lift (w:=w) (g:=g) (b:=w.heap.size+1) (mv.trans (Mv.zk (Kp.refl [] w1))) (zad a2 (Kp.refl [] w1)) ⟨lL o2.1 ((Kp.refl [] w1)).size,o2.2⟩ (by omega) hwc
 obtain⟨y0,y1,z0,z1,cl⟩:=zaa hb9
 obtain⟨d0,d1,_⟩:=zaa (zae hb9 (.bool pp) (.int .i64 pn))
 rw[HA.o] at hQ
 have Q:=zh hQ
 clear a1 o1 a2 o2 mv hwc hb9 hQ q
 go_wp2_with fail
 exact bR (by simp[results,Tryz.results99,go_sem,d0,d1]) Q.o
theorem zrz(h:J X w g m R)(hd:okD X.cd m.D)(hL:LibIn X.wc)(hn:0 < m.s.cA.length)(hnx:m.next+1<=1000000000)(a b:Cl)(hab:zI R a b)(hwf:wfC a)(hok:okC b)(htop:a=g.s.top 0/\b=m.s.top 0):Calls Tryz.prog 99 #[.pointer (some ⟨X.mm,0,none⟩),sg [115,117,98],.agg #[.bool a.p,.int .i64 a.n]] w fun e w'=>zP X w g m (subA m.D b) e w':=by
 obtain⟨ap,an⟩:=a
 simp only
 obtain⟨w1,hw1,HB,HJ⟩:=pre2W h (.cells #[.bool ap,.int .i64 an] 67) (.cells #[.bool false,.int .i64 0] 67)
 have HF:=hf2 HB.o HJ.o
 have Hd:=zh hd
 have HLi:=zh hL
 have Hn:Hid (_/\_):=⟨hn,hnx⟩
 have Hab:Hid (zI R ⟨ap,an⟩ b/\wfC ⟨ap,an⟩/\okC b/\(⟨ap,an⟩:Cl)=g.s.top 0/\b=m.s.top 0):=⟨hab,hwf,hok,htop⟩
 clear hd hL h hab hn hnx hwf hok htop
 generalize hA:(subA m.D b:Act1)=act
 have HA:=zh hA
 clear hA
 unfold sg
 go_enter Tryz.func99,Tryz.ntmps99
 go_upto_region 29 with fail
 rw[<-hw1.out]
 have HC:Hid _:=zqa HJ.o Hd.o Hn.o.1 Hn.o.2 ⟨ap,an⟩ b Hab.o.1
 unfold sg at HC
 obtain⟨⟨f0,f1,f2⟩,f3,f4⟩:=HF.o w1 kr
 go_wp2_with fail
 refine cM HC.o ?_
 intro e w4 q
 clear f0 f1 f2 f3 f4
 obtain⟨mv,a1,o1,a2,o2,hwc⟩:=HB.o
 obtain⟨pp,pn,pf9,rfl,hb9,hQ⟩:=q.lift (w:=w) (g:=g) (b:=w.heap.size+1) (mv.trans (Mv.zk (Kp.refl [] w1))) (zad a2 (Kp.refl [] w1)) ⟨lL o2.1 ((Kp.refl [] w1)).size,o2.2⟩ (by omega) hwc
 obtain⟨y0,y1,z0,z1,cl⟩:=zaa hb9
 obtain⟨d0,d1,_⟩:=zaa (zae hb9 (.bool pp) (.int .i64 pn))
 rw[HA.o] at hQ
 have Q:=zh hQ
 clear a1 o1 a2 o2 mv hwc hb9 hQ q
 go_wp2_with fail
 exact bR (by simp[results,Tryz.results99,go_sem,d0,d1]) Q.o
theorem zry(h:J X w g m R)(hd:okD X.cd m.D)(hL:LibIn X.wc)(hn:0 < m.s.cA.length)(hnx:m.next+1<=1000000000)(a b:Cl)(hab:zI R a b)(hwf:wfC a)(hok:okC b)(htop:a=g.s.top 0/\b=m.s.top 0):Calls Tryz.prog 99 #[.pointer (some ⟨X.mm,0,none⟩),sg [112,97,114,116],.agg #[.bool a.p,.int .i64 a.n]] w fun e w'=>zP X w g m (partA m.D b) e w':=by
 obtain⟨ap,an⟩:=a
 simp only
 obtain⟨w1,hw1,HB,HJ⟩:=pre2W h (.cells #[.bool ap,.int .i64 an] 67) (.cells #[.bool false,.int .i64 0] 67)
 have HF:=hf2 HB.o HJ.o
 have Hd:=zh hd
 have HLi:=zh hL
 have Hn:Hid (_/\_):=⟨hn,hnx⟩
 have Hab:Hid (zI R ⟨ap,an⟩ b/\wfC ⟨ap,an⟩/\okC b/\(⟨ap,an⟩:Cl)=g.s.top 0/\b=m.s.top 0):=⟨hab,hwf,hok,htop⟩
 clear hd hL h hab hn hnx hwf hok htop
 generalize hA:(partA m.D b:Act1)=act
 have HA:=zh hA
 clear hA
 unfold sg
 go_enter Tryz.func99,Tryz.ntmps99
 go_upto_region 29 with fail
 rw[<-hw1.out]
 have HC:Hid _:=znt HJ.o Hd.o Hn.o.1 Hn.o.2 ⟨ap,an⟩ b Hab.o.1
 unfold sg at HC
 obtain⟨⟨f0,f1,f2⟩,f3,f4⟩:=HF.o w1 kr
 go_wp2_with fail
 refine cM HC.o ?_
 intro e w4 q
 clear f0 f1 f2 f3 f4
 obtain⟨mv,a1,o1,a2,o2,hwc⟩:=HB.o
 obtain⟨pp,pn,pf9,rfl,hb9,hQ⟩:=q.lift (w:=w) (g:=g) (b:=w.heap.size+1) (mv.trans (Mv.zk (Kp.refl [] w1))) (zad a2 (Kp.refl [] w1)) ⟨lL o2.1 ((Kp.refl [] w1)).size,o2.2⟩ (by omega) hwc
 obtain⟨y0,y1,z0,z1,cl⟩:=zaa hb9
 obtain⟨d0,d1,_⟩:=zaa (zae hb9 (.bool pp) (.int .i64 pn))
 rw[HA.o] at hQ
 have Q:=zh hQ
 clear a1 o1 a2 o2 mv hwc hb9 hQ q
 go_wp2_with fail
 exact bR (by simp[results,Tryz.results99,go_sem,d0,d1]) Q.o
theorem zop(h:J X w g m R)(hd:okD X.cd m.D)(hL:LibIn X.wc)(hn:0 < m.s.cA.length)(hnx:m.next+1<=1000000000)(a b:Cl)(hab:zI R a b)(hwf:wfC a)(hok:okC b)(htop:a=g.s.top 0/\b=m.s.top 0):Calls Tryz.prog 99 #[.pointer (some ⟨X.mm,0,none⟩),sg [97,116],.agg #[.bool a.p,.int .i64 a.n]] w fun e w'=>zP X w g m (atA m.D false b) e w':=by
 obtain⟨ap,an⟩:=a
 simp only
 obtain⟨w1,hw1,HB,HJ⟩:=pre2W h (.cells #[.bool ap,.int .i64 an] 67) (.cells #[.bool false,.int .i64 0] 67)
 have HF:=hf2 HB.o HJ.o
 have Hd:=zh hd
 have HLi:=zh hL
 have Hn:Hid (_/\_):=⟨hn,hnx⟩
 have Hab:Hid (zI R ⟨ap,an⟩ b/\wfC ⟨ap,an⟩/\okC b/\(⟨ap,an⟩:Cl)=g.s.top 0/\b=m.s.top 0):=⟨hab,hwf,hok,htop⟩
 clear hd hL h hab hn hnx hwf hok htop
 generalize hA:(atA m.D false b:Act1)=act
 have HA:=zh hA
 clear hA
 unfold sg
 go_enter Tryz.func99,Tryz.ntmps99
 go_upto_region 2 with fail
 rw[<-hw1.out]
 have HC:Hid _:=zs5 HJ.o Hd.o ⟨ap,an⟩ b Hab.o.1
 unfold sg at HC
 obtain⟨⟨f0,f1,f2⟩,f3,f4⟩:=HF.o w1 kr
 go_wp2_with fail
 refine cM HC.o ?_
 intro e w4 q
 clear f0 f1 f2 f3 f4
 obtain⟨mv,a1,o1,a2,o2,hwc⟩:=HB.o
 obtain⟨pp,pn,pf9,rfl,hb9,hQ⟩:=q.lift (w:=w) (g:=g) (b:=w.heap.size+1) (mv.trans (Mv.zk (Kp.refl [] w1))) (zad a2 (Kp.refl [] w1)) ⟨lL o2.1 ((Kp.refl [] w1)).size,o2.2⟩ (by omega) hwc
 obtain⟨y0,y1,z0,z1,cl⟩:=zaa hb9
 obtain⟨d0,d1,_⟩:=zaa (zae hb9 (.bool pp) (.int .i64 pn))
 rw[HA.o] at hQ
 have Q:=zh hQ
 clear a1 o1 a2 o2 mv hwc hb9 hQ q
 go_wp2_with fail
 exact bR (by simp[results,Tryz.results99,go_sem,d0,d1]) Q.o
theorem zoo(h:J X w g m R)(hd:okD X.cd m.D)(hL:LibIn X.wc)(hn:0 < m.s.cA.length)(hnx:m.next+1<=1000000000)(a b:Cl)(hab:zI R a b)(hwf:wfC a)(hok:okC b)(htop:a=g.s.top 0/\b=m.s.top 0):Calls Tryz.prog 99 #[.pointer (some ⟨X.mm,0,none⟩),sg [112,117,116],.agg #[.bool a.p,.int .i64 a.n]] w fun e w'=>zP X w g m (atA m.D true b) e w':=by
 obtain⟨ap,an⟩:=a
 simp only
 obtain⟨w1,hw1,HB,HJ⟩:=pre2W h (.cells #[.bool ap,.int .i64 an] 67) (.cells #[.bool false,.int .i64 0] 67)
 have HF:=hf2 HB.o HJ.o
 have Hd:=zh hd
 have HLi:=zh hL
 have Hn:Hid (_/\_):=⟨hn,hnx⟩
 have Hab:Hid (zI R ⟨ap,an⟩ b/\wfC ⟨ap,an⟩/\okC b/\(⟨ap,an⟩:Cl)=g.s.top 0/\b=m.s.top 0):=⟨hab,hwf,hok,htop⟩
 clear hd hL h hab hn hnx hwf hok htop
 generalize hA:(atA m.D true b:Act1)=act
 have HA:=zh hA
 clear hA
 unfold sg
 go_enter Tryz.func99,Tryz.ntmps99
 go_upto_region 2 with fail
 rw[<-hw1.out]
 have HC:Hid _:=zqc HJ.o Hd.o ⟨ap,an⟩ b Hab.o.1
 unfold sg at HC
 obtain⟨⟨f0,f1,f2⟩,f3,f4⟩:=HF.o w1 kr
 go_wp2_with fail
 refine cM HC.o ?_
 intro e w4 q
 clear f0 f1 f2 f3 f4
 obtain⟨mv,a1,o1,a2,o2,hwc⟩:=HB.o
 obtain⟨pp,pn,pf9,rfl,hb9,hQ⟩:=q.lift (w:=w) (g:=g) (b:=w.heap.size+1) (mv.trans (Mv.zk (Kp.refl [] w1))) (zad a2 (Kp.refl [] w1)) ⟨lL o2.1 ((Kp.refl [] w1)).size,o2.2⟩ (by omega) hwc
 obtain⟨y0,y1,z0,z1,cl⟩:=zaa hb9
 obtain⟨d0,d1,_⟩:=zaa (zae hb9 (.bool pp) (.int .i64 pn))
 rw[HA.o] at hQ
 have Q:=zh hQ
 clear a1 o1 a2 o2 mv hwc hb9 hQ q
 go_wp2_with fail
 exact bR (by simp[results,Tryz.results99,go_sem,d0,d1]) Q.o
theorem zr3(h:J X w g m R)(hd:okD X.cd m.D)(hL:LibIn X.wc)(hn:0 < m.s.cA.length)(hnx:m.next+1<=1000000000)(a b:Cl)(hab:zI R a b)(hwf:wfC a)(hok:okC b)(htop:a=g.s.top 0/\b=m.s.top 0):Calls Tryz.prog 99 #[.pointer (some ⟨X.mm,0,none⟩),sg [110,111,116],.agg #[.bool a.p,.int .i64 a.n]] w fun e w'=>zP X w g m (if b.p then .wrong else .give (truth (decide (b.n=0)))) e w':=by
 obtain⟨ap,an⟩:=a
 simp only
 obtain⟨w1,hw1,HB,HJ⟩:=pre2W h (.cells #[.bool ap,.int .i64 an] 67) (.cells #[.bool false,.int .i64 0] 67)
 have HF:=hf2 HB.o HJ.o
 have Hd:=zh hd
 have HLi:=zh hL
 have Hn:Hid (_/\_):=⟨hn,hnx⟩
 have Hab:Hid (zI R ⟨ap,an⟩ b/\wfC ⟨ap,an⟩/\okC b/\(⟨ap,an⟩:Cl)=g.s.top 0/\b=m.s.top 0):=⟨hab,hwf,hok,htop⟩
 clear hd hL h hab hn hnx hwf hok htop
 generalize hA:(if b.p then .wrong else .give (truth (decide (b.n=0))):Act1)=act
 have HA:=zh hA
 clear hA
 unfold sg
 go_enter Tryz.func99,Tryz.ntmps99
 go_upto_region 6 with fail
 rw[<-hw1.out]
 obtain⟨e1,e2,-⟩:=Hab.o.1
 simp only at e1 e2
 cases ap with
 | true=>
  rw[if_pos e1.symm] at HA
  clear e1 e2
  obtain⟨⟨f0,f1,f2⟩,f3,f4⟩:=HF.o w1 kr
  obtain⟨⟨y0,y1,z0,z1,cl⟩,d0,d1,Q⟩:=endF2 HB.o HJ.o kr (.inl ⟨HA.o.symm,rfl⟩)
  go_wp2_with fail
  exact bR (by simp[results,Tryz.results99,go_sem,d0,d1]) Q.o
 | false=>
  have hbn:=e2 rfl
  have HBd:Hid (-1000000000<=an/\an<=1000000000):=by
   have:=Hab.o.2.2.1 e1.symm
   rw[<-hbn] at this
   exact this
  rw[if_neg (by rw[<-e1];exact Bool.false_ne_true),<-hbn] at HA
  clear e1 e2 hbn
  have HC:Hid _:=zqd (HJ.o) an
  unfold sg at HC
  obtain⟨⟨f0,f1,f2⟩,f3,f4⟩:=HF.o w1 kr
  go_wp2_with fail
  refine cM HC.o ?_
  intro e w4 q
  clear f0 f1 f2 f3 f4
  obtain⟨mv,a1,o1,a2,o2,hwc⟩:=HB.o
  obtain⟨pp,pn,pf9,rfl,hb9,hQ⟩:=q.lift (w:=w) (g:=g) (b:=w.heap.size+1) (mv.trans (Mv.zk (Kp.refl [] w1))) (zad a2 (Kp.refl [] w1)) ⟨lL o2.1 ((Kp.refl [] w1)).size,o2.2⟩ (by omega) hwc
  obtain⟨y0,y1,z0,z1,cl⟩:=zaa hb9
  obtain⟨d0,d1,_⟩:=zaa (zae hb9 (.bool pp) (.int .i64 pn))
  rw[HA.o] at hQ
  have Q:=zh hQ
  clear a1 o1 a2 o2 mv hwc hb9 hQ q
  go_wp2_with fail
  exact bR (by simp[results,Tryz.results99,go_sem,d0,d1]) Q.o
theorem zr1(h:J X w g m R)(hd:okD X.cd m.D)(hL:LibIn X.wc)(hn:0 < m.s.cA.length)(hnx:m.next+1<=1000000000)(a b:Cl)(hab:zI R a b)(hwf:wfC a)(hok:okC b)(htop:a=g.s.top 0/\b=m.s.top 0):Calls Tryz.prog 99 #[.pointer (some ⟨X.mm,0,none⟩),sg [115,116,114],.agg #[.bool a.p,.int .i64 a.n]] w fun e w'=>zP X w g m (if b.p then .wrong else .make (zTT (strA b.n))) e w':=by
 obtain⟨ap,an⟩:=a
 simp only
 obtain⟨w1,hw1,HB,HJ⟩:=pre2W h (.cells #[.bool ap,.int .i64 an] 67) (.cells #[.bool false,.int .i64 0] 67)
 have HF:=hf2 HB.o HJ.o
 have Hd:=zh hd
 have HLi:=zh hL
 have Hn:Hid (_/\_):=⟨hn,hnx⟩
 have Hab:Hid (zI R ⟨ap,an⟩ b/\wfC ⟨ap,an⟩/\okC b/\(⟨ap,an⟩:Cl)=g.s.top 0/\b=m.s.top 0):=⟨hab,hwf,hok,htop⟩
 clear hd hL h hab hn hnx hwf hok htop
 generalize hA:(if b.p then .wrong else .make (zTT (strA b.n)):Act1)=act
 have HA:=zh hA
 clear hA
 unfold sg
 go_enter Tryz.func99,Tryz.ntmps99
 go_upto_region 6 with fail
 rw[<-hw1.out]
 obtain⟨e1,e2,-⟩:=Hab.o.1
 simp only at e1 e2
 cases ap with
 | true=>
  rw[if_pos e1.symm] at HA
  clear e1 e2
  obtain⟨⟨f0,f1,f2⟩,f3,f4⟩:=HF.o w1 kr
  obtain⟨⟨y0,y1,z0,z1,cl⟩,d0,d1,Q⟩:=endF2 HB.o HJ.o kr (.inl ⟨HA.o.symm,rfl⟩)
  go_wp2_with fail
  exact bR (by simp[results,Tryz.results99,go_sem,d0,d1]) Q.o
 | false=>
  have hbn:=e2 rfl
  have HBd:Hid (-1000000000<=an/\an<=1000000000):=by
   have:=Hab.o.2.2.1 e1.symm
   rw[<-hbn] at this
   exact this
  rw[if_neg (by rw[<-e1];exact Bool.false_ne_true),<-hbn] at HA
  clear e1 e2 hbn
  have HC:Hid _:=zqb HJ.o HLi.o Hn.o.1 Hn.o.2 an HBd.o
  unfold sg at HC
  obtain⟨⟨f0,f1,f2⟩,f3,f4⟩:=HF.o w1 kr
  go_wp2_with fail
  refine cM HC.o ?_
  intro e w4 q
  clear f0 f1 f2 f3 f4
  obtain⟨mv,a1,o1,a2,o2,hwc⟩:=HB.o
  obtain⟨pp,pn,pf9,rfl,hb9,hQ⟩:=q.lift (w:=w) (g:=g) (b:=w.heap.size+1) (mv.trans (Mv.zk (Kp.refl [] w1))) (zad a2 (Kp.refl [] w1)) ⟨lL o2.1 ((Kp.refl [] w1)).size,o2.2⟩ (by omega) hwc
  obtain⟨y0,y1,z0,z1,cl⟩:=zaa hb9
  obtain⟨d0,d1,_⟩:=zaa (zae hb9 (.bool pp) (.int .i64 pn))
  rw[HA.o] at hQ
  have Q:=zh hQ
  clear a1 o1 a2 o2 mv hwc hb9 hQ q
  go_wp2_with fail
  exact bR (by simp[results,Tryz.results99,go_sem,d0,d1]) Q.o
theorem zrx(h:J X w g m R)(hd:okD X.cd m.D)(hL:LibIn X.wc)(hn:0 < m.s.cA.length)(hnx:m.next+1<=1000000000)(a b:Cl)(hab:zI R a b)(hwf:wfC a)(hok:okC b)(htop:a=g.s.top 0/\b=m.s.top 0):Calls Tryz.prog 99 #[.pointer (some ⟨X.mm,0,none⟩),sg [99,104,114],.agg #[.bool a.p,.int .i64 a.n]] w fun e w'=>zP X w g m (if b.p then .wrong else if b.n < 0\/255 < b.n then .raise (-5) else .make (zTT [UInt8.ofNat b.n.toNat])) e w':=by
 obtain⟨ap,an⟩:=a
 simp only
 obtain⟨w1,hw1,HB,HJ⟩:=pre2W h (.cells #[.bool ap,.int .i64 an] 67) (.cells #[.bool false,.int .i64 0] 67)
 have HF:=hf2 HB.o HJ.o
 have Hd:=zh hd
 have HLi:=zh hL
 have Hn:Hid (_/\_):=⟨hn,hnx⟩
 have Hab:Hid (zI R ⟨ap,an⟩ b/\wfC ⟨ap,an⟩/\okC b/\(⟨ap,an⟩:Cl)=g.s.top 0/\b=m.s.top 0):=⟨hab,hwf,hok,htop⟩
 clear hd hL h hab hn hnx hwf hok htop
 generalize hA:(if b.p then .wrong else if b.n < 0\/255 < b.n then .raise (-5) else .make (zTT [UInt8.ofNat b.n.toNat]):Act1)=act
 have HA:=zh hA
 clear hA
 unfold sg
 go_enter Tryz.func99,Tryz.ntmps99
 go_upto_region 6 with fail
 rw[<-hw1.out]
 obtain⟨e1,e2,-⟩:=Hab.o.1
 simp only at e1 e2
 cases ap with
 | true=>
  rw[if_pos e1.symm] at HA
  clear e1 e2
  obtain⟨⟨f0,f1,f2⟩,f3,f4⟩:=HF.o w1 kr
  obtain⟨⟨y0,y1,z0,z1,cl⟩,d0,d1,Q⟩:=endF2 HB.o HJ.o kr (.inl ⟨HA.o.symm,rfl⟩)
  go_wp2_with fail
  exact bR (by simp[results,Tryz.results99,go_sem,d0,d1]) Q.o
 | false=>
  have hbn:=e2 rfl
  have HBd:Hid (-1000000000<=an/\an<=1000000000):=by
   have:=Hab.o.2.2.1 e1.symm
   rw[<-hbn] at this
   exact this
  rw[if_neg (by rw[<-e1];exact Bool.false_ne_true),<-hbn] at HA
  clear e1 e2 hbn
  have HC:Hid _:=zqe HJ.o Hn.o.1 Hn.o.2 an
  unfold sg at HC
  obtain⟨⟨f0,f1,f2⟩,f3,f4⟩:=HF.o w1 kr
  go_wp2_with fail
  refine cM HC.o ?_
  intro e w4 q
  clear f0 f1 f2 f3 f4
  obtain⟨mv,a1,o1,a2,o2,hwc⟩:=HB.o
  obtain⟨pp,pn,pf9,rfl,hb9,hQ⟩:=q.lift (w:=w) (g:=g) (b:=w.heap.size+1) (mv.trans (Mv.zk (Kp.refl [] w1))) (zad a2 (Kp.refl [] w1)) ⟨lL o2.1 ((Kp.refl [] w1)).size,o2.2⟩ (by omega) hwc
  obtain⟨y0,y1,z0,z1,cl⟩:=zaa hb9
  obtain⟨d0,d1,_⟩:=zaa (zae hb9 (.bool pp) (.int .i64 pn))
  rw[HA.o] at hQ
  have Q:=zh hQ
  clear a1 o1 a2 o2 mv hwc hb9 hQ q
  go_wp2_with fail
  exact bR (by simp[results,Tryz.results99,go_sem,d0,d1]) Q.o
theorem zr2(h:J X w g m R)(hd:okD X.cd m.D)(hL:LibIn X.wc)(hn:0 < m.s.cA.length)(hnx:m.next+1<=1000000000)(a b:Cl)(hab:zI R a b)(hwf:wfC a)(hok:okC b)(htop:a=g.s.top 0/\b=m.s.top 0):Calls Tryz.prog 99 #[.pointer (some ⟨X.mm,0,none⟩),sg [112,114,105,110,116],.agg #[.bool a.p,.int .i64 a.n]] w fun e w'=>zP X w g m (if thK m.D b 2 then(if 2000 < m.out.length+(bytesA m.D b.n).length then .raise (-6) else .out (bytesA m.D b.n)) else .wrong) e w':=by
 obtain⟨ap,an⟩:=a
 simp only
 obtain⟨w1,hw1,HB,HJ⟩:=pre2W h (.cells #[.bool ap,.int .i64 an] 67) (.cells #[.bool false,.int .i64 0] 67)
 have HF:=hf2 HB.o HJ.o
 have Hd:=zh hd
 have HLi:=zh hL
 have Hn:Hid (_/\_):=⟨hn,hnx⟩
 have Hab:Hid (zI R ⟨ap,an⟩ b/\wfC ⟨ap,an⟩/\okC b/\(⟨ap,an⟩:Cl)=g.s.top 0/\b=m.s.top 0):=⟨hab,hwf,hok,htop⟩
 clear hd hL h hab hn hnx hwf hok htop
 generalize hA:(if thK m.D b 2 then(if 2000 < m.out.length+(bytesA m.D b.n).length then .raise (-6) else .out (bytesA m.D b.n)) else .wrong:Act1)=act
 have HA:=zh hA
 clear hA
 unfold sg
 go_enter Tryz.func99,Tryz.ntmps99
 go_upto_region 11 with fail
 rw[<-hw1.out]
 have HI:Hid (∀ wx,Kp [] w1 wx->_):=zbl HJ.o ⟨ap,an⟩ b Hab.o.1 2
 obtain⟨⟨f0,f1,f2⟩,f3,f4⟩:=HF.o w1 kr
 cases k1:thK m.D b 2 with
 | false=>
  rw[k1] at HI HA
  rw[if_neg Bool.false_ne_true] at HA
  go_wp2_with fail
  refine cM (HI.o _ kr) ?_
  rintro e w2 ⟨rfl,hw2⟩
  clear f0 f1 f2 f3 f4
  obtain⟨⟨y0,y1,z0,z1,cl⟩,d0,d1,Q⟩:=endF2 HB.o HJ.o hw2 (.inl ⟨HA.o.symm,rfl⟩)
  clear k1 hw2
  go_wp2_with fail
  exact bR (by simp[results,Tryz.results99,go_sem,d0,d1]) Q.o
 | true=>
  rw[k1] at HI HA
  rw[if_pos rfl] at HA
  have HY:Hid (∀ wx,Kp [] w1 wx->_):=zc4 HJ.o Hd.o ⟨ap,an⟩ b Hab.o.1 k1
  obtain⟨_,u,hu,hku⟩:=zat k1
  have hln:=zbr Hd.o hu hku
  generalize bytesA m.D b.n=L at *
  obtain⟨S,hS⟩:∃ S:ByteArray,S=⟨L.toArray⟩:=⟨_,rfl⟩
  rw[<-hS] at HY
  have HS:Hid (S.data.toList=L/\S.size<=200):=by
   unfold Hid
   rw[hS]
   exact⟨by simp,by simp only[ByteArray.size,List.size_toArray];omega⟩
  clear hS hu hku hln
  go_wp2_with fail
  refine cM (HI.o _ kr) ?_
  rintro e w2 ⟨rfl,hw2⟩
  clear f0 f1 f2 f3 f4
  obtain⟨⟨f0,f1,f2⟩,f3,f4⟩:=HF.o w2 hw2
  go_wp2_with fail
  refine cM (HY.o _ hw2) ?_
  rintro e w3 ⟨rfl,hw3⟩
  clear f0 f1 f2 f3 f4
  have HP:Hid _:=zlb (HJ.o.kp hw3) S HS.o.2
  go_wp2_with fail
  refine cM HP.o ?_
  intro e w4 q
  obtain⟨mv,a1,o1,a2,o2,hwc⟩:=HB.o
  obtain⟨pp,pn,pf9,rfl,hb9,hQ⟩:=q.lift (w:=w) (g:=g) (b:=w.heap.size+1) (mv.trans (Mv.zk hw3)) (zad a2 hw3) ⟨lL o2.1 (hw3).size,o2.2⟩ (by omega) hwc
  obtain⟨y0,y1,z0,z1,cl⟩:=zaa hb9
  obtain⟨d0,d1,_⟩:=zaa (zae hb9 (.bool pp) (.int .i64 pn))
  rw[HS.o.1,HA.o] at hQ
  have Q:=zh hQ
  clear a1 o1 a2 o2 mv hwc hb9 hQ q k1 hw2 hw3
  go_wp2_with fail
  exact bR (by simp[results,Tryz.results99,go_sem,d0,d1]) Q.o
end
end Go.Proofs.YtkcmachfagcnaaaGreatDoor
