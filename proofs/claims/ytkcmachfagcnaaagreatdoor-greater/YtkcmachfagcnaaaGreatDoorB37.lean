/- Part of Greater. -/
import Derived.Shelf.Strings.Replace
import Derived.Shelf.Strconv.Itoa3
import Derived.Ground.NamesProg
import Derived.Lib.AppendIntMem
import Derived.Test.YtkcmachfagcnaaaGreatDoorB34
set_option maxHeartbeats 8000000
set_option maxRecDepth 100000
namespace Go.Proofs.YtkcmachfagcnaaaGreatDoor
open Go.RowKit Go.Deep Go.IntWalk
open C12 (zX Cd Fn In zT)
inductive RzOk:St->Prop
 | nil (s:St) (h:s.cA.length=0):RzOk s
 | hand (s:St) (hn:0 < s.cA.length) (ht:s.cur.tb < s.tA.length) (hv:s.cur.vb<=s.vA.length) (hl:s.vA.length+1<=1000000000) (hk:((s.tA.getLast?).getD default).vals<=1000000000):RzOk s
 | leave (s:St) (hn:0 < s.cA.length) (ht:s.cur.tb=s.tA.length) (hs:s.cur.sb<=s.sA.length) (hv:s.cur.vb<=s.vA.length) (h:RzOk s.leave):RzOk s
theorem znn{v:Cl}{s:St}(h:s.cA.length=0)(f:Nat):zRS v f s=(s,false):=by
 cases f with
 | zero=>rfl
 | succ f=>
  unfold zRS
  rw[if_pos h]
theorem zk8{v:Cl}{s:St}(hn:0 < s.cA.length)(h:s.cur.tb < s.tA.length)(f:Nat):zRS v (f+1) s=(handS s v,true):=by
 unfold zRS
 rw[if_neg (by omega),if_pos h]
 rfl
theorem zfd(s:St)(hn:0 < s.cA.length):s.leave.cA.length+1=s.cA.length:=by
 unfold St.leave
 simp only[List.length_dropLast]
 omega
theorem zjk{v:Cl}{s:St}(hn:0 < s.cA.length)(h:¬ s.cur.tb < s.tA.length):zRS v (s.cA.length+1) s=zRS v (s.leave.cA.length+1) s.leave:=by
 rw[show zRS v (s.cA.length+1) s=zRS v s.cA.length s.leave from by rw[zRS,if_neg (by omega),if_neg h],zfd s hn]
def callsN(X:Fx)(w:World):Nat:=match w.cell? ⟨X.mm,30,none⟩ with
 | some (.slice _ n _)=>n
 | _=>0
section
variable{X:Fx}{w:World}{g:Pg}{m:AM}{R:Int->Int->Prop}
theorem J.callsN(h:J X w g m R):callsN X w=m.s.cA.length:=by
 obtain⟨q,cap,hv,-⟩:=zah h.oc
 have c0:w.cell? ⟨X.mm,30,none⟩=some (.slice q g.s.cA.length cap):=by rw[<-hv];exact h.box.rows.1
 unfold Go.Proofs.YtkcmachfagcnaaaGreatDoor.callsN
 rw[c0]
 exact h.clen
theorem zji(h:J X w g m R)(hk0:m.kind=0)(hE:ExIn X.wc)(hT:zX X.wc X.pt X.cd.texts)(hz:RzOk m.s)(p v:Cl)(hpv:zI R p v)(hwf:wfC p)(hv:v.p=true/\0 < lenA m.D v.n)(hx:exnB m.D (getA m.D v.n 0)=true)(hf:(getA m.D v.n 0).p=true->0 < lenA m.D (getA m.D v.n 0).n/\(getA m.D (getA m.D v.n 0).n 0).p=false/\0<=(getA m.D (getA m.D v.n 0).n 0).n/\(getA m.D (getA m.D v.n 0).n 0).n < X.cd.texts.length):Calls Tryz.prog 57 #[.pointer (some ⟨X.mm,0,none⟩),.agg #[.bool p.p,.int .i64 p.n]] w fun e w'=>zD X w g (AM.raise X.cd m v) e w':=by
 obtain⟨vp,vn⟩:=p
 simp only
 obtain⟨j1,m1,a1,o1⟩:=zbe h (.cells #[.bool vp,.int .i64 vn] 67)
 have HB:Hid (_/\_/\_):=⟨m1,a1,o1⟩
 have Hpv:Hid (_/\_/\_):=⟨hpv,hwf,hk0⟩
 have HX:Hid (_/\_/\_):=⟨hv,hx,hf⟩
 have HE:Hid (_/\_):=⟨hE,hT⟩
 have HS:Hid (∃ s' g',J X (w.alloc (.cells #[.bool vp,.int .i64 vn] 67)) g' {m with s:=s'} R/\Mv X (w.alloc (.cells #[.bool vp,.int .i64 vn] 67)) g (w.alloc (.cells #[.bool vp,.int .i64 vn] 67)) g'/\RzOk s'/\zRS v (m.s.cA.length+1) m.s=zRS v (s'.cA.length+1) s'):=⟨m.s,g,j1,Mv.zk kr,hz,rfl⟩
 clear h j1 m1 a1 o1 hz hk0 hE hT hpv hwf hv hx hf
 go_enter Tryz.func57,Tryz.ntmps57
 go_wp2_with fail
 generalize w.alloc _=w1 at *
 go_loopw [5] (fun _ wr=>Hid (∃ s' g',J X wr g' {m with s:=s'} R/\Mv X w1 g wr g'/\RzOk s'/\zRS v (m.s.cA.length+1) m.s=zRS v (s'.cA.length+1) s')) (fun _ wr=>callsN X wr)
 case atStart=>exact HS
 case round=>
  obtain⟨s',g',hJ,hm,hz,hr⟩:=hrel.out
  clear hrel
  have hcn:=hJ.callsN
  obtain⟨q,cap,hvc,-⟩:=zah hJ.oc
  have hcl:g'.s.cA.length=s'.cA.length:=hJ.clen
  have c0:wr.cell? ⟨X.mm,30,none⟩=some (.slice q s'.cA.length cap):=by rw[<-hcl,<-hvc];exact hJ.box.rows.1
  have c1:=hJ.box.lt
  obtain⟨mv,a1,o1⟩:=HB.o
  obtain⟨o1r,k1r⟩:=o1.mv hm
  have hbx:=k1r.trans a1
  have HR:Hid (_/\_/\_/\_/\_/\_/\_/\_):=⟨hJ,mv.trans hm,hm,hbx,o1r,hz,hr,hcn⟩
  clear hJ hm hz hr hcn hvc hcl mv a1 o1 o1r k1r hbx
  by_cases h0:s'.cA.length=0
  ·have h0':¬ ((0:Int) < (s'.cA.length:Int)):=by omega
   have HF:Hid (∀ wx,Kp [] wr wx->wx.cell? ⟨X.mm,2,none⟩=some (.pointer (some ⟨X.hp,0,none⟩))/\X.mm < wx.heap.size/\wx.cell? ⟨w.heap.size,1,none⟩=some (.int .i64 vn)/\w.heap.size < wx.heap.size):=fun wx hx=>by
    have hb:=HR.o.1.box.kp hx (by simp)
    have e3:=(hx.block _ HR.o.2.2.2.2.1.1 (by simp)).trans HR.o.2.2.2.1
    refine⟨hb.heap.1,hb.lt,?_,(sz e3)⟩
    simp[World.cell?,e3]
   obtain⟨ht,u,hu,pf,hpf,hget⟩:=HR.o.1.view Hpv.o.1 HX.o.1.1
   have hlu:0 < u.fs.length:=by
    have h3:=HX.o.1.2
    unfold lenA at h3
    rw[show m.D v.n=some u from hu] at h3
    exact h3
   simp only at ht
   have HG:=zh hget
   have Hpf:Hid _:=(hpf 0 hlu).1
   generalize hP0:pf 0=P0 at *
   obtain⟨p0p,p0n⟩:=P0
   have HG0:Hid (∀ wx,Kp [] wr wx->Calls Tryz.prog 82 #[.pointer (some ⟨X.hp,0,none⟩),.int .i64 vn,.int .i64 0] wx fun e w'=>e=.returned (.agg #[.bool p0p,.int .i64 p0n])/\Kp [] wr w'):=fun wx hx=>by
    have:=(HG.o wx hx).2.2 0 hlu
    rw[hP0] at this
    exact this
   have HN:Hid _:=znu HR.o.1 HE.o.1 HE.o.2 ⟨p0p,p0n⟩ (getA m.D v.n 0) Hpf.o HX.o.2.1 HX.o.2.2
   generalize hnm:nameA X.cd m.D (getA m.D v.n 0)=nm at *
   have Hnm:=zh hnm
   have H0:=zh h0
   clear hget hpf hP0 ht hnm h0 hlu hu
   go_upto_region 7 with fail
   clear c0 c1 h0'
   refine zan 12 (C:=fun wx=>Kp [] wr wx) (by kernel_rfl) ?_
   refine qL 0 rfl ?_
   apply xI
   (intro wx hwx;go_simp <;> rfl)
   refine qL 1 rfl ?_
   apply xI
   (intro wx hwx;go_simp <;> rfl)
   refine qL 2 rfl ?_
   apply xI
   (intro wx hwx;go_simp <;> rfl)
   refine qL 3 rfl ?_
   apply xI
   (intro wx hwx;go_simp <;> rfl)
   refine qL 4 rfl ?_
   apply xI
   (intro wx hwx;go_simp <;> rfl)
   refine qL 5 rfl ?_
   apply xI
   (intro wx hwx;obtain⟨x0,x1,x2,x3⟩:=HF.o wx hwx;go_simp <;> rfl)
   refine qL 6 rfl ?_
   apply xI
   (intro wx hwx;go_simp <;> rfl)
   refine qL 7 rfl ?_
   apply xI
   (intro wx hwx;obtain⟨x0,x1,x2,x3⟩:=HF.o wx hwx;go_simp <;> rfl)
   refine oL 8 (Kp.refl [] wr).drew rfl (fun K hK=>?_)
   go_simp
   refine cM (HG0.o _ (Kp.refl [] wr).drew) ?_
   rintro e5 w5 ⟨rfl,hw5⟩
   refine hK _ _ ?_
   clear hK K
   refine oL 9 hw5 rfl (fun K hK=>?_)
   go_simp
   refine cM (HN.o _ hw5) ?_
   rintro e6 w6 ⟨rfl,hw6⟩
   refine hK _ _ ?_
   clear hK K
   obtain⟨x0,x1,-,-⟩:=HF.o _ hw6
   have hb6:=HR.o.1.box.kp hw6 (by simp)
   have z35:=hb6.frozen 35
   have c35:=hb6.tell.2.1
   have Q:Hid (zD X w g (AM.raise X.cd m v) (.returned (.int .i64 2)) (w6.setCell ⟨X.mm,35,none⟩ (.string nm))):=by
    obtain⟨hJ,hm0,-,-,-,-,hr,-⟩:=HR.o
    have ht:=(hJ.kp hw6).tells (w':=w6.setCell ⟨X.mm,35,none⟩ (.string nm)) m.kind nm m.steps (hb6.setN nm) (Kp.setCell _ _ (by simp) _)
    unfold Hid AM.raise
    rw[hr,znn H0.o,if_neg (by simp),Hnm.o]
    refine zD.of 2 rfl (g':=g') (R':=R) ?_ (hm0.trans ((Mv.zk hw6).trans ht.2))
    have h7:=ht.1
    rw[Hpv.o.2.2] at h7
    exact h7
   clear hb6 hw5
   refine oL 10 hw6 rfl (fun K hK=>?_)
   go_simp
   refine hK _ _ ?_
   clear hK K
   refine oL 11 hw6 rfl (fun K hK=>?_)
   go_simp
   refine hK _ _ ?_
   clear hK K
   refine oL 12 hw6 rfl (fun K hK=>?_)
   go_simp
   refine hK _ _ ?_
   clear hK K
   refine zas (by kernel_rfl) (by kernel_rfl) ?_
   go_simp
   go_wp2_with fail
   exact bR (by simp[results,Tryz.results57,go_sem]) Q.o
  ·have h0':(0:Int) < (s'.cA.length:Int):=by omega
   have hcl:g'.s.cA.length=s'.cA.length:=HR.o.1.clen
   obtain⟨gc,cap2,hvc2,hcur⟩:=HR.o.1.curAt (by omega)
   have HI:Hid _:=zbw HR.o.1 (by omega) (gc:=gc) (cap:=cap2) (fun wx hx=>(hcur wx hx).1)
   obtain⟨qt,ct,hvt,-⟩:=zah HR.o.1.ot
   have htr:g'.s.tA=s'.tA:=HR.o.1.st.tr
   have hcu:=HR.o.1.cur (show 0 < s'.cA.length by omega)
   have HF:Hid (∀ wx,Kp [] wr wx->wx.cell? ⟨X.mm,33,none⟩=some (.slice qt s'.tA.length ct)/\X.mm < wx.heap.size/\wx.cell? ⟨gc,(s'.cA.length - 1) * 9+8,none⟩=some (.int .i64 s'.cur.tb)/\gc < wx.heap.size):=fun wx hx=>by
    have hb:=HR.o.1.box.kp hx (by simp)
    have e8:=(hcur wx hx).2.1 8 (by omega)
    rw[hcl] at e8
    refine⟨by rw[<-htr,<-hvt];exact hb.rows.2.2.2.1,hb.lt,?_,(hcur wx hx).2.2⟩
    rw[e8]
    show some (Value.int .i64 (g'.s.cur.tb:Nat))=_
    rw[hcu.tb]
   rw[hcl] at HI
   have HV:Hid (_/\_):=⟨hvc2,hcl⟩
   clear hcl hvc2 hcur hvt htr hcu
   go_wp2_with fail
   refine cM (HI.o wr kr) ?_
   rintro e w5 ⟨rfl,hw5⟩
   have Hw5:=zh hw5.drew
   clear hw5 c0 c1
   go_upto_region 3 with fail
   refine rQ Hw5.o (fun ops Hops=>?_)
   repeat
    (refine wQ ?_;apply xI;(·intro wx hwx;obtain⟨x0,x1,x2,x3⟩:=HF.o wx hwx;go_simp <;> first | with_reducible rfl | with_reducible exact⟨rfl,rfl⟩);try go_simp)
   refine wpQuiet_nil ?_
   clear Hops ops
   intro w6 hw6
   have HJ6:Hid (_/\_):=⟨HR.o.1.kp hw6,hw6⟩
   have e3:=(hw6.block _ HR.o.2.2.2.2.1.1 (by simp)).trans HR.o.2.2.2.1
   obtain⟨f0,f1,-,-,f2⟩:=zaa e3
   clear e3
   by_cases ht:s'.cur.tb < s'.tA.length
   ·have ht':(s'.cur.tb:Int) < (s'.tA.length:Int):=by omega
    have HH:Hid _:=zn5 HJ6.o.1 (by show 0 < s'.cA.length;omega) ht (by
      cases HR.o.2.2.2.2.2.1 with
      | nil _ h=>omega
      | hand _ hn ht hv hl hk=>exact hv
      | leave _ hn ht hs hv h=>exact hv) (by
      cases HR.o.2.2.2.2.2.1 with
      | nil _ h=>omega
      | hand _ hn ht hv hl hk=>exact hl
      | leave _ hn ht hs hv h=>omega) (by
      cases HR.o.2.2.2.2.2.1 with
      | nil _ h=>omega
      | hand _ hn ht hv hl hk=>exact hk
      | leave _ hn ht hs hv h=>omega) HV.o.1 ⟨vp,vn⟩ v Hpv.o.1 Hpv.o.2.1
    rw[HV.o.2] at HH
    simp only at HH
    have H0:Hid (0 < s'.cA.length/\_):=⟨by omega,ht⟩
    clear hw6 h0 h0' ht
    go_wp2_with fail
    refine cM HH.o ?_
    rintro e w7 ⟨rfl,g7,hJ7,hm7⟩
    have Q:Hid (zD X w g (AM.raise X.cd m v) (.returned (.int .i64 0)) w7):=by
     obtain⟨-,hm0,-,-,-,-,hr,-⟩:=HR.o
     unfold Hid AM.raise
     rw[hr,zk8 H0.o.1 H0.o.2,if_pos rfl]
     refine zD.of 0 rfl (g':=g7) (R':=R) ?_ (hm0.trans ((Mv.zk HJ6.o.2).trans hm7))
     have h7:=hJ7
     rw[<-AM.k0_s m Hpv.o.2.2 (handS s' v)] at h7
     exact h7
    clear hJ7 hm7 f0 f1 f2
    go_wp2_with fail
    exact bR (by simp[results,Tryz.results57,go_sem]) Q.o
   ·have ht':¬ ((s'.cur.tb:Int) < (s'.tA.length:Int)):=by omega
    have HL:Hid _:=zgu HJ6.o.1 (by show 0 < s'.cA.length;omega) (by
      cases HR.o.2.2.2.2.2.1 with
      | nil _ h=>omega
      | hand _ hn ht hv hl hk=>omega
      | leave _ hn ht hs hv h=>exact hs) (by
      cases HR.o.2.2.2.2.2.1 with
      | nil _ h=>omega
      | hand _ hn ht hv hl hk=>omega
      | leave _ hn ht hs hv h=>exact hv) (by
      cases HR.o.2.2.2.2.2.1 with
      | nil _ h=>omega
      | hand _ hn ht hv hl hk=>omega
      | leave _ hn ht hs hv h=>exact Nat.le_of_eq ht)
    have H0:Hid (0 < s'.cA.length/\_):=⟨by omega,ht⟩
    clear hw6 h0 h0' ht
    go_wp2_with fail
    refine cM HL.o ?_
    rintro e w7 ⟨rfl,g7,hJ7,hm7⟩
    have HQ:Hid (_/\_):=⟨hJ7,hm7⟩
    clear hJ7 hm7
    go_wp2_with fail
    go_roundw
    case rel=>
     obtain⟨-,-,hm,-,-,hz,hr,-⟩:=HR.o
     refine⟨s'.leave,g7,HQ.o.1,hm.trans ((Mv.zk HJ6.o.2).trans HQ.o.2),?_,hr.trans (zjk H0.o.1 H0.o.2)⟩
     have h1:=H0.o
     cases hz with
     | nil _ h=>omega
     | hand _ hn ht hv hl hk=>omega
     | leave _ hn ht hs hv h=>exact h
    case measure=>
     rw[HQ.o.1.callsN,HR.o.2.2.2.2.2.2.2]
     have:=zfd s' H0.o.1
     show s'.leave.cA.length < _
     omega
theorem zmr(f n:Int)(hf:0 < f):Calls Tryz.prog 59 #[.pointer (some ⟨X.mm,0,none⟩),.int .i64 f,.int .i64 n] w fun e w'=>e=.returned (.int .i64 f)/\w'=w:=by
 go_enter Tryz.func59,Tryz.ntmps59
 go_wp2_with fail
 exact bodyPost_ret (v:=.int .i64 f) (by simp[results,Tryz.results59,go_sem]) rfl ⟨rfl,rfl⟩
theorem zt2(h:J X w g m R)(hk0:m.kind=0)(hE:ExIn X.wc)(hT:zX X.wc X.pt X.cd.texts)(hn:0 < m.s.cA.length)(hnx:m.next+1<=1000000000)(k:Int)(takes:Nat)(hk:-6<=k/\k<=-1)(htk:takes<=m.s.vA.length)(hz:RzOk (m.s.drop takes)):Calls Tryz.prog 59 #[.pointer (some ⟨X.mm,0,none⟩),.int .i64 k,.int .i64 takes] w fun e w'=>zD X w g (AM.fail (room X.cells) X.cd m k takes) e w':=by
 have HM:Hid _:=zgt h hn hnx 0 0 1 (by omega)
 have Hwf:Hid (wfC ⟨false,k⟩):=zco (by omega)
 have HX:Hid (_/\_/\_/\_/\_/\_):=⟨hk0,hE,hT,hk,htk,hz⟩
 have hkp:¬ 0 < k:=by omega
 clear h hk0 hE hT hn hnx hk htk hz
 go_enter Tryz.func59,Tryz.ntmps59
 go_wp2_with fail
 refine cM HM.o ?_
 intro e w2 q
 cases q with
 | no w2 g' R' hr hJ hmv=>
  have Q:Hid (∀ wx,Kp [] w2 wx->zD X w g (AM.fail (room X.cells) X.cd m k takes) (.returned (.int .i64 3)) wx):=fun wx hx=>by
   unfold AM.fail
   rw[if_neg hr]
   refine zD.of 3 rfl (g':=g') (R':=R') ?_ (hmv.trans (Mv.zk hx))
   have h7:=hJ.kp hx
   rw[show m.bump=m.over.k0 from by unfold AM.bump AM.over AM.k0;rw[HX.o.1]] at h7
   exact h7
  clear hJ hmv hr
  go_wp2_with fail
  exact bodyPost_ret (v:=.int .i64 3) (by simp[results,Tryz.results59,go_sem]) rfl (Q.o _ kA)
 | yes w2 g' R' x hr hJ hR hwf hmv=>
  have hk3:Kp [] w2 (w2.alloc (.cells #[.bool true,.int .i64 x] 67)):=kA
  have hJ3:=hJ.kp hk3
  have hb3:(w2.alloc (.cells #[.bool true,.int .i64 x] 67)).heap[w2.heap.size]? = some (.cells #[.bool true,.int .i64 x] 67):=zab w2 _
  have ho3:Off X (w2.alloc (.cells #[.bool true,.int .i64 x] 67)) g' w2.heap.size:=hJ.off (Nat.le_refl _) (by simp)
  have HF:Hid (∀ wx,Kp [] (w2.alloc (.cells #[.bool true,.int .i64 x] 67)) wx->wx.cell? ⟨X.mm,2,none⟩=some (.pointer (some ⟨X.hp,0,none⟩))/\X.mm < wx.heap.size/\wx.cell? ⟨w2.heap.size,1,none⟩=some (.int .i64 x)/\w2.heap.size < wx.heap.size):=fun wx hx=>by
   have e1:=(hx.block _ ho3.1 (by simp)).trans hb3
   have hb1:=hJ3.box.kp hx (by simp)
   exact⟨hb1.heap.1,hb1.lt,by simp only[World.cell?,e1];rfl,(sz e1)⟩
  have HSet:Hid _:=zk2 hJ3 hR ⟨false,k⟩ (num k) (zb5 R' k) Hwf.o
  simp only at HSet
  have HN:Hid (∀ wx,Kp [] (w2.alloc (.cells #[.bool true,.int .i64 x] 67)) wx->Calls Tryz.prog 85 #[.int .i64 k] wx fun e w'=>e=.returned (.agg #[.bool false,.int .i64 k])/\Kp [] (w2.alloc (.cells #[.bool true,.int .i64 x] 67)) w'):=fun wx hx=>cM (za0 wx k) (fun e w' q=>⟨q.1,hx.trans q.2⟩)
  have HS:Hid (_/\_/\_/\_/\_/\_):=⟨hb3,ho3,hR,hr,hwf,hmv.trans (Mv.zk hk3)⟩
  clear hJ hJ3 hmv hr hb3 hk3 ho3 hR hwf
  go_upto_region 6 with fail
  generalize w2.alloc _=w3 at *
  generalize w2.heap.size=b1 at *
  refine zan 8 (C:=fun wx=>Kp [] w3 wx) (by kernel_rfl) ?_
  refine qT 0 rfl ?_
  apply xI
  (intro wx hwx;go_simp <;> rfl)
  refine qT 1 rfl ?_
  apply xI
  (intro wx hwx;go_simp <;> rfl)
  refine qT 2 rfl ?_
  apply xI
  (intro wx hwx;go_simp <;> rfl)
  refine qT 3 rfl ?_
  apply xI
  (intro wx hwx;obtain⟨f3,f4,f1,f2⟩:=HF.o wx hwx;go_simp <;> rfl)
  refine qT 4 rfl ?_
  apply xI
  (intro wx hwx;go_simp <;> rfl)
  refine qT 5 rfl ?_
  apply xI
  (intro wx hwx;obtain⟨f3,f4,f1,f2⟩:=HF.o wx hwx;go_simp <;> rfl)
  refine qT 6 rfl ?_
  apply xI
  (intro wx hwx;go_simp <;> rfl)
  refine oL 7 (Kp.refl _ _).drew rfl (fun K hK=>?_)
  go_simp
  refine cM (HN.o _ (Kp.refl _ _).drew) ?_
  rintro e9 w9 ⟨rfl,hw9⟩
  refine hK _ _ ?_
  clear hK K
  refine oL 8 hw9 rfl (fun K hK=>?_)
  go_simp
  refine cM (HSet.o _ hw9) ?_
  rintro e10 w10 ⟨rfl,ts2,hJ2,hm2⟩
  refine hK _ _ ?_
  clear hK K
  refine zas (by kernel_rfl) (by kernel_rfl) ?_
  go_simp
  have HD:Hid _:=zba hJ2 takes (show takes<=m.s.vA.length from HX.o.2.2.2.2.1)
  have H2:=zh hm2
  clear hJ2 hm2 hw9
  go_wp2_with fail
  refine cM HD.o ?_
  rintro e w5 ⟨rfl,g5,hp5⟩
  obtain⟨hb3,ho3,hR,hr,hwf,hm0⟩:=HS.o
  obtain⟨hk0,hE,hT,hk,htk,hz⟩:=HX.o
  have hm5:=H2.o.trans hp5.mv
  obtain⟨-,hk3r⟩:=ho3.mv hm5
  obtain⟨f0,f1,-,-,f2⟩:=zaa (hk3r.trans hb3)
  have hu:(m.make ⟨0,0,[num k]⟩).D m.next=some ⟨0,0,[num k]⟩:=by
   unfold AM.make
   simp[upd]
  have hg:getA (m.make ⟨0,0,[num k]⟩).D m.next 0=num k:=by
   unfold getA
   rw[hu]
   rfl
  have HR:Hid _:=zji hp5.j hk0 hE hT hz ⟨true,x⟩ ⟨true,m.next⟩ ⟨rfl,(fun e=>by cases e),fun _=>hR⟩ hwf (by
    refine⟨rfl,?_⟩
    show 0 < lenA (m.make ⟨0,0,[num k]⟩).D m.next
    rw[zd8]
    simp) (by
    show exnB (m.make ⟨0,0,[num k]⟩).D (getA (m.make ⟨0,0,[num k]⟩).D m.next 0)=true
    rw[hg]
    unfold exnB num
    simp
    omega) (fun e=>by
    have e2:=e
    rw[hg] at e2
    cases e2)
  simp only at HR
  have HQ:Hid (_/\_):=⟨hm0.trans hm5,hr⟩
  clear hp5 hb3 ho3 hR hr hwf hm0 hk0 hE hT hk htk hz hm5 hk3r hu hg
  go_wp2_with fail
  refine cM HR.o ?_
  intro e w6 q
  have q2:zD X w g (AM.fail (room X.cells) X.cd m k takes) e w6:=by
   unfold AM.fail
   rw[if_pos HQ.o.2]
   exact q.from HQ.o.1
  clear q
  cases q2 with
  | mk w6 g6 R6 hJ6 hm6=>
   have Q:Hid (zD X w g (AM.fail (room X.cells) X.cd m k takes) (.returned (.int .i64 (AM.fail (room X.cells) X.cd m k takes).kind)) w6):=.mk w6 g6 R6 hJ6 hm6
   clear hJ6 hm6
   generalize (AM.fail (room X.cells) X.cd m k takes).kind=kd at *
   go_wp2_with fail
   exact bR (by simp[results,Tryz.results59,go_sem]) Q.o
theorem zfx{a:Act1}{f:Int}{m':AM}(hf:failOf X.cells m a f m')(h:J X w g m' R)(hk0:m.kind=0)(hE:ExIn X.wc)(hT:zX X.wc X.pt X.cd.texts)(hn:0 < m.s.cA.length)(hnx:m.next+1<=1000000000)(takes:Nat)(htk:takes<=m.s.vA.length)(hz:RzOk (m.s.drop takes))(kf:AM->Cl->AM):Calls Tryz.prog 59 #[.pointer (some ⟨X.mm,0,none⟩),.int .i64 f,.int .i64 takes] w fun e w'=>zD X w g (AM.act (room X.cells) X.cd m a takes kf) e w':=by
 cases hf with
 | wrong=>
  refine cM (zmr (X:=X) 4 takes (by decide)) ?_
  rintro e w' ⟨rfl,rfl⟩
  refine zD.of 4 rfl (g':=g) (R':=R) ?_ (Mv.zk kr)
  have h7:=h
  rw[<-AM.k0_eq hk0] at h7
  exact h7
 | raise k hk=>exact zt2 h hk0 hE hT hn hnx f takes (by omega) htk hz
 | make t hr=>
  refine cM (zmr (X:=X) 3 takes (by decide)) ?_
  rintro e w' ⟨rfl,rfl⟩
  unfold AM.act
  simp only
  rw[if_neg hr]
  refine zD.of 3 rfl (g':=g) (R':=R) ?_ (Mv.zk kr)
  have h7:=h
  rw[show m.bump=m.over.k0 from by unfold AM.bump AM.over AM.k0;rw[hk0]] at h7
  exact h7
theorem valOf.act{a:Act1}{m':AM}{v:Cl}(hv:valOf X.cells m a m' v)(takes:Nat)(kf:AM->Cl->AM):AM.act (room X.cells) X.cd m a takes kf=kf m' v:=by
 cases hv with
 | give v=>rfl
 | set x i v=>rfl
 | make t h=>
  unfold AM.act
  simp only
  rw[if_pos h]
 | out l=>rfl
theorem valOf.s{a:Act1}{m':AM}{v:Cl}(hv:valOf X.cells m a m' v):m'.s=m.s/\m'.kind=m.kind:=by
 cases hv with
 | give v=>exact⟨rfl,rfl⟩
 | set x i v=>exact⟨rfl,rfl⟩
 | make t h=>exact⟨rfl,rfl⟩
 | out l=>exact⟨rfl,rfl⟩
end
end Go.Proofs.YtkcmachfagcnaaaGreatDoor
namespace Go.Proofs.YtkcmachfagcnaaaGreatDoor
open Go.RowKit Go.Deep
open C12 (Cd In zT)
def TvOk(k:Nat)(s:St):Prop:=∀ t∈s.tA,t.vals<=k
section
variable{c:Cd}{T:Nat->Nat->Nat}{k:Nat}{m:AM}{p:Nat}
theorem TvOk.leave{s:St}(h:TvOk k s):TvOk k s.leave:=fun t ht=>h t (List.mem_of_mem_take ht)
theorem TvOk.last{s:St}(h:TvOk k s)(hn:0 < s.tA.length):((s.tA.getLast?).getD default).vals<=k:=by
 have hne:s.tA≠[]:=by
  intro e
  rw[e] at hn
  simp at hn
 rw[List.getLast?_eq_some_getLast hne]
 exact h _ (List.getLast_mem hne)
theorem Mid.rz:∀ (n:Nat) (m:AM) (p:Nat),m.s.cA.length=n->Mid c T k m p->k+1<=1000000000->TvOk k m.s->RzOk m.s
 | 0,m,_,hn,_,_,_=>.nil m.s hn
 | n+1,m,p,hn,h,hk,ht=>by
  have hsb:=h.cu.sb
  have hvb:=h.cu.vb
  have htb:=h.cu.tb
  have hvl:=h.vl
  simp only at hsb hvb htb
  by_cases hc:m.s.cur.tb < m.s.tA.length
  ·exact .hand m.s (by omega) hc hvb (by omega) (by have:=ht.last (by omega);omega)
  ·refine .leave m.s (by omega) (by omega) hsb.1 hvb ?_
   have hl:=zfd m.s (by omega)
   by_cases h0:m.s.leave.cA.length=0
   ·exact .nil _ h0
   ·exact Mid.rz n {m with s:=m.s.leave} m.s.leave.cur.pc (by show m.s.leave.cA.length=n;omega) (h.leave h0) hk ht.leave
theorem Mid.rzd(h:Mid c T k m p)(hk:k+1<=1000000000)(ht:TvOk k m.s){n:Nat}(hn:m.s.cur.vb+n<=m.s.vA.length):RzOk (m.s.drop n):=Mid.rz _ {m with s:=m.s.drop n} p rfl (h.drop hn) hk ht
end
section
variable{ok:Room}{c:Cd}{k:Nat}
theorem TvOk.same{s s':St}(h:TvOk k s)(e:s'.tA=s.tA):TvOk k s':=by
 unfold TvOk
 rw[e]
 exact h
theorem zjq{α:Type}{l:List α}{t:α}(h:t∈l.dropLast):t∈l:=by
 rw[List.dropLast_eq_take] at h
 exact List.mem_of_mem_take h
theorem TvOk.zRS{v:Cl} : ∀ (f:Nat) (s:St),TvOk k s->TvOk k (zRS v f s).1
 | 0,_,h=>h
 | f+1,s,h=>by
  unfold Go.Proofs.YtkcmachfagcnaaaGreatDoor.zRS
  split
  ·exact h
  ·split
   ·exact fun t ht=>h t (zjq ht)
   ·exact TvOk.zRS f s.leave h.leave
theorem TvOk.raise{m:AM}{v:Cl}(h:TvOk k m.s):TvOk k (AM.raise c m v).s:=by
 unfold AM.raise
 split
 ·exact TvOk.zRS _ _ h
 ·exact TvOk.zRS _ _ h
theorem TvOk.fail{m:AM}{e:Int}{n:Nat}(h:TvOk k m.s):TvOk k (AM.fail ok c m e n).s:=by
 unfold AM.fail
 split
 ·exact TvOk.raise (h.same rfl)
 ·exact h
theorem TvOk.act{m:AM}{a:Act1}{n:Nat}{f:AM->Cl->AM}(h:TvOk k m.s)(hf:∀ m' v,m'.s=m.s->TvOk k (f m' v).s):TvOk k (AM.act ok c m a n f).s:=by
 unfold AM.act
 split
 ·exact h
 ·exact h.fail
 ·exact hf _ _ rfl
 ·exact hf _ _ rfl
 ·split
  ·exact hf _ _ rfl
  ·exact h
 ·exact hf _ _ rfl
theorem TvOk.giveS{m:AM}{v:Cl}(h:TvOk k m.s):TvOk k (m.giveS v).s:=by
 unfold AM.giveS
 split
 ·exact h.leave
 ·exact(h.leave).same rfl
theorem TvOk.call{m:AM}{b:Bool}(h:TvOk k m.s):TvOk k (AM.call ok c m b).s:=by
 unfold AM.call
 split
 ·split
  ·split
   ·exact h
   ·refine h.act (fun m' v e=>?_)
    split
    ·exact TvOk.giveS (by rw[e];exact h)
    ·exact TvOk.same (s:=m'.s) (by rw[e];exact h) rfl
  ·split
   ·exact(h.leave).same rfl
   ·split
    ·exact h
    ·exact h.same rfl
 ·exact h
theorem TvOk.doT{m:AM}{x:In}{n:Nat}(h:TvOk k m.s)(hv:m.s.vA.length<=k):TvOk k (AM.doT ok c m x n).s:=by
 unfold AM.doT
 by_cases c0:(m.s.has:Int) < zT c.funs x
 ·rw[if_pos c0]
  exact h
 rw[if_neg c0]
 by_cases c1:x.op=6
 ·rw[if_pos c1]
  exact h.same rfl
 rw[if_neg c1]
 by_cases c2:x.op=25
 ·rw[if_pos c2]
  exact h.same rfl
 rw[if_neg c2]
 by_cases c3:x.op=14
 ·rw[if_pos c3]
  by_cases g1:hasF m.D (m.s.slot x.a.toNat) 1 x.b.toNat=true
  ·rw[if_pos g1]
   exact h.same rfl
  ·rw[if_neg g1]
   exact h
 rw[if_neg c3]
 by_cases c4:x.op=18
 ·rw[if_pos c4]
  exact h.same rfl
 rw[if_neg c4]
 by_cases c5:x.op=19
 ·rw[if_pos c5]
  by_cases g1:(m.s.top 0).p=true
  ·rw[if_pos g1]
   exact h
  ·rw[if_neg g1]
   by_cases g2:(m.s.top 0).n=1
   ·simp only[if_pos g2]
    exact h.same rfl
   ·simp only[if_neg g2]
    exact h.same rfl
 rw[if_neg c5]
 by_cases c6:x.op=20
 ·rw[if_pos c6]
  intro t ht
  have ht2:=ht
  rcases List.mem_append.1 ht2 with h2 | h2
  ·exact h t h2
  ·rw[List.mem_singleton.1 h2]
   show m.s.has<=k
   unfold St.has
   omega
 rw[if_neg c6]
 by_cases c7:x.op=21
 ·rw[if_pos c7]
  exact fun t ht=>h t (zjq ht)
 rw[if_neg c7]
 by_cases c8:x.op=15\/x.op=16
 ·rw[if_pos c8]
  exact h.call
 rw[if_neg c8]
 by_cases c9:x.op=17
 ·rw[if_pos c9]
  exact h.giveS
 rw[if_neg c9]
 by_cases c10:x.op=22
 ·rw[if_pos c10]
  have h9:TvOk k (AM.raise c {m with s:=m.s.drop n} (m.s.top 0)).s:=TvOk.raise (h.same rfl)
  split
  ·split
   ·exact h9
   ·exact h
  ·split
   ·exact h9
   ·exact h
 rw[if_neg c10]
 exact h.act (fun m' v e=>TvOk.same (s:=m'.s) (by rw[e];exact h) rfl)
theorem TvOk.step{m:AM}(h:TvOk k m.s)(hv:m.s.vA.length<=k):TvOk k (AM.step ok c m).s:=by
 unfold AM.step AM.tick
 have h2:TvOk k (AM.doI ok c {m with s:=m.s.goto (m.s.cur.pc+1)} (m.ins c)).s:=TvOk.doT (h.same rfl) hv
 split
 ·exact h2
 ·exact h2
theorem TvOk.mono{s:St}{k':Nat}(h:TvOk k s)(hk:k<=k'):TvOk k' s:=fun t ht=>Nat.le_trans (h t ht) hk
end
end Go.Proofs.YtkcmachfagcnaaaGreatDoor
namespace Go.Proofs.YtkcmachfagcnaaaGreatDoor
open Go.Shelf
section
def Tryz.lays154_ren:Go.Shelf.Ren:=⟨fun | 154=>120 | 138=>127 | 165=>128 | 143=>129 | 166=>130 | 197=>131 | 169=>132 | 195=>136 | 218=>137 | 240=>138 | 241=>139 | 219=>140 | 260=>141 | 276=>145 | 277=>146 | 217=>147 | 225=>148 | 224=>149 | 267=>150 | 266=>155 | 314=>156 | n=>n,fun | 9=>9 | 3=>3 | 4=>4 | 72=>231 | 0=>0 | 76=>153 | 105=>233 | 21=>21 | 5=>5 | 70=>229 | 20=>20 | 37=>62 | 75=>80 | 127=>210 | 164=>117 | 46=>149 | 119=>243 | 139=>246 | 138=>245 | 146=>252 | 51=>211 | 80=>33 | n=>n,fun | 1=>6 | 3=>7 | 4=>8 | n=>n⟩
theorem Tryz.lays154:Go.Proofs.Lays.n154 Tryz.prog Tryz.lays154_ren:={
 mixed:=by kernel_rfl
 f138:=Tryz.func127.trans (congrArg some (by kernel_rfl))
 f143:=Tryz.func129.trans (congrArg some (by kernel_rfl))
 f154:=Tryz.func120.trans (congrArg some (by kernel_rfl))
 f165:=Tryz.func128.trans (congrArg some (by kernel_rfl))
 f166:=Tryz.func130.trans (congrArg some (by kernel_rfl))
 f169:=Tryz.func132.trans (congrArg some (by kernel_rfl))
 f195:=Tryz.func136.trans (congrArg some (by kernel_rfl))
 f197:=Tryz.func131.trans (congrArg some (by kernel_rfl))
 f217:=Tryz.func147.trans (congrArg some (by kernel_rfl))
 f218:=Tryz.func137.trans (congrArg some (by kernel_rfl))
 f219:=Tryz.func140.trans (congrArg some (by kernel_rfl))
 f224:=Tryz.func149.trans (congrArg some (by kernel_rfl))
 f225:=Tryz.func148.trans (congrArg some (by kernel_rfl))
 f240:=Tryz.func138.trans (congrArg some (by kernel_rfl))
 f241:=Tryz.func139.trans (congrArg some (by kernel_rfl))
 f260:=Tryz.func141.trans (congrArg some (by kernel_rfl))
 f266:=Tryz.func155.trans (congrArg some (by kernel_rfl))
 f267:=Tryz.func150.trans (congrArg some (by kernel_rfl))
 f276:=Tryz.func145.trans (congrArg some (by kernel_rfl))
 f277:=Tryz.func146.trans (congrArg some (by kernel_rfl))
 f314:=Tryz.func156.trans (congrArg some (by kernel_rfl))
 t0:=Tryz.underlying0
 a0:=Tryz.isAgg0
 z0:=Tryz.sizeOf0
 v0:=Tryz.zeroValue0
 t3:=Tryz.underlying3
 a3:=Tryz.isAgg3
 z3:=Tryz.sizeOf3
 v3:=Tryz.zeroValue3
 t4:=Tryz.underlying4
 a4:=Tryz.isAgg4
 z4:=Tryz.sizeOf4
 v4:=Tryz.zeroValue4
 t5:=Tryz.underlying5
 a5:=Tryz.isAgg5
 z5:=Tryz.sizeOf5
 v5:=Tryz.zeroValue5
 t9:=Tryz.underlying9
 a9:=Tryz.isAgg9
 z9:=Tryz.sizeOf9
 v9:=Tryz.zeroValue9
 t20:=Tryz.underlying20
 a20:=Tryz.isAgg20
 z20:=Tryz.sizeOf20
 v20:=Tryz.zeroValue20
 t21:=Tryz.underlying21
 a21:=Tryz.isAgg21
 z21:=Tryz.sizeOf21
 v21:=Tryz.zeroValue21
 t37:=Tryz.underlying62
 a37:=Tryz.isAgg62
 z37:=Tryz.sizeOf62
 v37:=Tryz.zeroValue62
 t46:=Tryz.underlying149
 a46:=Tryz.isAgg149
 z46:=Tryz.sizeOf149
 v46:=Tryz.zeroValue149
 t51:=Tryz.underlying211
 a51:=Tryz.isAgg211
 z51:=Tryz.sizeOf211
 v51:=Tryz.zeroValue211
 t70:=Tryz.underlying229
 a70:=Tryz.isAgg229
 z70:=Tryz.sizeOf229
 v70:=Tryz.zeroValue229
 t72:=Tryz.underlying231
 a72:=Tryz.isAgg231
 z72:=Tryz.sizeOf231
 v72:=Tryz.zeroValue231
 t75:=Tryz.underlying80
 a75:=Tryz.isAgg80
 z75:=Tryz.sizeOf80
 v75:=Tryz.zeroValue80
 t76:=Tryz.underlying153
 a76:=Tryz.isAgg153
 z76:=Tryz.sizeOf153
 v76:=Tryz.zeroValue153
 t105:=Tryz.underlying233
 a105:=Tryz.isAgg233
 z105:=Tryz.sizeOf233
 v105:=Tryz.zeroValue233
 t119:=Tryz.underlying243
 a119:=Tryz.isAgg243
 z119:=Tryz.sizeOf243
 t127:=Tryz.underlying210
 a127:=Tryz.isAgg210
 z127:=Tryz.sizeOf210
 v127:=Tryz.zeroValue210
 t138:=Tryz.underlying245
 a138:=Tryz.isAgg245
 z138:=Tryz.sizeOf245
 v138:=Tryz.zeroValue245
 t139:=Tryz.underlying246
 a139:=Tryz.isAgg246
 z139:=Tryz.sizeOf246
 v139:=Tryz.zeroValue246
 t146:=Tryz.underlying252
 a146:=Tryz.isAgg252
 z146:=Tryz.sizeOf252
 v146:=Tryz.zeroValue252
 t164:=Tryz.underlying117
 a164:=Tryz.isAgg117
 z164:=Tryz.sizeOf117
 v164:=Tryz.zeroValue117
 g1:=by kernel_rfl
 g3:=by kernel_rfl
 g4:=by kernel_rfl}
def Tryz.laysItoa_ren:Go.Shelf.Ren:=⟨fun | 171=>121 | 243=>133 | 246=>142 | 283=>151 | 284=>152 | 285=>153 | 286=>154 | 129=>158 | 317=>157 | 318=>159 | 319=>160 | 320=>161 | 337=>162 | 338=>163 | n=>n,fun | 3=>3 | 9=>9 | 2=>2 | 4=>4 | 171=>247 | 0=>0 | 53=>214 | 37=>62 | 5=>5 | 173=>250 | 212=>254 | 51=>211 | 20=>20 | 213=>255 | 46=>149 | 232=>258 | 233=>259 | n=>n,fun | 17=>9 | 18=>10 | 19=>11 | n=>n⟩
theorem Tryz.laysItoa:Go.Proofs.LaysM.n171 Tryz.prog Tryz.laysItoa_ren:={
 mixed:=by kernel_rfl
 f129:=Tryz.func158.trans (congrArg some (by kernel_rfl))
 f171:=Tryz.func121.trans (congrArg some (by kernel_rfl))
 f243:=Tryz.func133.trans (congrArg some (by kernel_rfl))
 f246:=Tryz.func142.trans (congrArg some (by kernel_rfl))
 f283:=Tryz.func151.trans (congrArg some (by kernel_rfl))
 f284:=Tryz.func152.trans (congrArg some (by kernel_rfl))
 f285:=Tryz.func153.trans (congrArg some (by kernel_rfl))
 f286:=Tryz.func154.trans (congrArg some (by kernel_rfl))
 f317:=Tryz.func157.trans (congrArg some (by kernel_rfl))
 f318:=Tryz.func159.trans (congrArg some (by kernel_rfl))
 f319:=Tryz.func160.trans (congrArg some (by kernel_rfl))
 f320:=Tryz.func161.trans (congrArg some (by kernel_rfl))
 f337:=Tryz.func162.trans (congrArg some (by kernel_rfl))
 f338:=Tryz.func163.trans (congrArg some (by kernel_rfl))
 t0:=Tryz.underlying0
 a0:=Tryz.isAgg0
 z0:=Tryz.sizeOf0
 v0:=Tryz.zeroValue0
 t2:=Tryz.underlying2
 a2:=Tryz.isAgg2
 z2:=Tryz.sizeOf2
 v2:=Tryz.zeroValue2
 t3:=Tryz.underlying3
 a3:=Tryz.isAgg3
 z3:=Tryz.sizeOf3
 v3:=Tryz.zeroValue3
 t4:=Tryz.underlying4
 a4:=Tryz.isAgg4
 z4:=Tryz.sizeOf4
 v4:=Tryz.zeroValue4
 t5:=Tryz.underlying5
 a5:=Tryz.isAgg5
 z5:=Tryz.sizeOf5
 v5:=Tryz.zeroValue5
 t9:=Tryz.underlying9
 a9:=Tryz.isAgg9
 z9:=Tryz.sizeOf9
 v9:=Tryz.zeroValue9
 t20:=Tryz.underlying20
 a20:=Tryz.isAgg20
 z20:=Tryz.sizeOf20
 v20:=Tryz.zeroValue20
 t37:=Tryz.underlying62
 a37:=Tryz.isAgg62
 z37:=Tryz.sizeOf62
 v37:=Tryz.zeroValue62
 t46:=Tryz.underlying149
 a46:=Tryz.isAgg149
 z46:=Tryz.sizeOf149
 v46:=Tryz.zeroValue149
 t51:=Tryz.underlying211
 a51:=Tryz.isAgg211
 z51:=Tryz.sizeOf211
 v51:=Tryz.zeroValue211
 t53:=Tryz.underlying214
 a53:=Tryz.isAgg214
 z53:=Tryz.sizeOf214
 v53:=Tryz.zeroValue214
 t171:=Tryz.underlying247
 a171:=Tryz.isAgg247
 z171:=Tryz.sizeOf247
 v171:=Tryz.zeroValue247
 t173:=Tryz.underlying250
 a173:=Tryz.isAgg250
 z173:=Tryz.sizeOf250
 v173:=Tryz.zeroValue250
 t212:=Tryz.underlying254
 a212:=Tryz.isAgg254
 z212:=Tryz.sizeOf254
 v212:=Tryz.zeroValue254
 t213:=Tryz.underlying255
 a213:=Tryz.isAgg255
 z213:=Tryz.sizeOf255
 t232:=Tryz.underlying258
 a232:=Tryz.isAgg258
 z232:=Tryz.sizeOf258
 v232:=Tryz.zeroValue258
 t233:=Tryz.underlying259
 a233:=Tryz.isAgg259
 z233:=Tryz.sizeOf259
 v233:=Tryz.zeroValue259
 g17:=by kernel_rfl
 g18:=by kernel_rfl
 g19:=by kernel_rfl
 i0:=by kernel_rfl
 i2:=by kernel_rfl
 i3:=by kernel_rfl
 i4:=by kernel_rfl
 i5:=by kernel_rfl
 i9:=by kernel_rfl
 i20:=by kernel_rfl
 i37:=by kernel_rfl
 i46:=by kernel_rfl
 i51:=by kernel_rfl
 i53:=by kernel_rfl
 i171:=by kernel_rfl
 i173:=by kernel_rfl
 i212:=by kernel_rfl
 i232:=by kernel_rfl
 i233:=by kernel_rfl
 m17:=by kernel_rfl
 m18:=by kernel_rfl
 m19:=by kernel_rfl}
theorem Tryz.extra154:Builder.Extra Tryz.prog Tryz.lays154_ren:={
 sizeBuilder:=by kernel_rfl
 liesBuilder:=by kernel_rfl
 t5:=Tryz.lays154.t5
 a5:=Tryz.lays154.a5
 z5:=Tryz.lays154.z5
 v5:=Tryz.lays154.v5
 infoByte:=by kernel_rfl
 cellsByte:=by kernel_rfl
 sizeByte:=by kernel_rfl
 neB5:=by decide}
open Go.RowKit Go.Deep
theorem zxu(u:Nat):∀ c∈Lib.decDigits u,c≠45:=by
 rw[Lib.decDigits_eq]
 intro c hc
 obtain⟨k,_,rfl⟩:=List.mem_map.1 hc
 unfold Lib.dg
 intro e
 have:=congrArg UInt8.toNat e
 simp at this
 omega
theorem zmj:∀ (l:List UInt8),(∀ c∈l,c≠45)->Lib.index l [45]=-1
 | [],_=>rfl
 | b :: l,h=>by
  unfold Lib.index
  rw[if_neg (by simp[List.isPrefixOf];exact fun e=>h b (by simp) e.symm),zmj l (fun c hc=>h c (List.mem_cons_of_mem _ hc))]
  rfl
theorem znj(l:List UInt8)(h:Lib.index l [45]=-1):∀ k,Lib.replaceK [45] [126] k l=l
 | 0=>rfl
 | k+1=>by
  unfold Lib.replaceK
  rw[h]
  rfl
theorem zve(n:Int):Lib.replace (Lib.itoa n) [45] [126] 1=strA n:=by
 unfold Lib.replace strA Lib.itoa
 rw[if_neg (by decide)]
 split
 ·generalize Lib.decDigits n.natAbs=l
  have hi:Lib.index (45 :: l) [45]=0:=by unfold Lib.index;rfl
  have hc:=Lib.count_cons_eq 45 l
  have hn:Lib.replaceNum (45 :: l) [45] 1=1:=by
   unfold Lib.replaceNum
   rw[if_neg (by omega)]
   rfl
  rw[hn,Lib.replaceK_hit [45] [126] 0 (45 :: l) 0 hi]
  rfl
 ·exact znj _ (zmj _ (zxu _)) _
structure LibIn(w:World):Prop where
 tab:Lib.TabIs Tryz.prog w "internal/strconv.uint64pow10" .u64 Lib.pow10Tab
 ml:∃ k:Int,w.cell? ⟨6,0,none⟩=some (.int .i64 k)/\6 < w.heap.size
theorem LibIn.below{w w':World}(h:LibIn w)(hb:Below w.heap.size w w'):LibIn w':=by
 obtain⟨k,h1,h2⟩:=h.ml
 exact⟨Lib.tabBelow_of_tabIs h.tab w' hb,k,(hb.cell (p:=⟨6,0,none⟩) h2).trans h1,lL h2 hb.size⟩
theorem zhc(w:World)(k:Nat)(os:Array Obj):Below w.heap.size w (Sort.grow (w.drewN k) os):=
 ⟨rfl,rfl,rfl,by simp[Sort.grow],fun i hi=>by
  show((w.drewN k).heap++os)[i]? = _
  rw[Array.getElem?_append_left (by show i < w.heap.size;omega)]
  rfl⟩
theorem zti(w:World)(hL:LibIn w)(n:Int)(hn:-1000000000<=n/\n<=1000000000):Calls Tryz.prog 121 #[.int .i64 n] w fun e w'=>e=.returned (.string ⟨(Lib.itoa n).toArray⟩)/\Below w.heap.size w w':=by
 refine cM (Any.strconv_Itoa Tryz.laysItoa n (by omega) (by omega) w hL.tab) ?_
 rintro e w' ⟨rfl,k,os,rfl⟩
 exact⟨rfl,zhc _ _ _⟩
theorem zk5(w:World)(hL:LibIn w)(s:ByteArray)(hs:s.size<=100):Calls Tryz.prog 120 #[.string s,.string ⟨#[45]⟩,.string ⟨#[126]⟩,.int .i64 1] w fun e w'=>e=.returned (.string ⟨(Lib.replace s.data.toList [45] [126] 1).toArray⟩)/\Below w.heap.size w w':=by
 obtain⟨k,h1,_⟩:=hL.ml
 have hc:=Lib.countB_mul_le ⟨#[45]⟩ (by decide) s.size s (Nat.le_refl _)
 exact Any.strings_Replace Tryz.lays154 Tryz.extra154 s ⟨#[45]⟩ ⟨#[126]⟩ 1 k w (by omega) h1 (by decide) (by
  have e1:(⟨#[126]⟩:ByteArray).size=1:=rfl
  have e2:(⟨#[45]⟩:ByteArray).size=1:=rfl
  rw[e2] at hc
  rw[e1]
  omega)
end
end Go.Proofs.YtkcmachfagcnaaaGreatDoor
