/- Part of Greater. -/
import Derived.Test.YtkcmachfagcnaaaGreatDoorB39
set_option maxHeartbeats 8000000
set_option maxRecDepth 100000
namespace Go.Proofs.YtkcmachfagcnaaaGreatDoor
open Go.RowKit Go.Deep Go.IntWalk
open C12 (zX Cd Fn In zT)
theorem failOf.ne{cells:Int}{m m':AM}{a:Act1}{f:Int}(h:failOf cells m a f m'):(f != 0)=true:=by
 cases h with
 | wrong=>rfl
 | raise k hk=>simp;omega
 | make t h=>rfl
section
variable{X:Fx}{w:World}{g:Pg}{m:AM}{R:Int->Int->Prop}
theorem zj8(h:J X w g m R)(hd:okD X.cd m.D)(hL:LibIn X.wc)(hk0:m.kind=0)(hE:ExIn X.wc)(hT:zX X.wc X.pt X.cd.texts)(hn:0 < m.s.cA.length)(hnx:m.next+1<=1000000000)(hv:2<=m.s.vA.length)(hvl:m.s.vA.length+1<=1000000000)(hsb:m.s.cur.sb<=m.s.sA.length)(hvb:m.s.cur.vb<=m.s.vA.length)(htb:m.s.cur.tb<=m.s.tA.length)(k:Nat)(hk:k < 12)(hth:thK m.D (m.s.top 1) 1=true)(hok:okC (m.s.top 0))(hz:RzOk (m.s.drop 2))(tail:Bool):Calls Tryz.prog 79 #[.pointer (some ⟨X.mm,0,none⟩),.agg #[.int .i64 (60000+k:Nat),.bool (g.s.top 1).p,.int .i64 (g.s.top 1).n,.bool (g.s.top 0).p,.int .i64 (g.s.top 0).n,.int .i64 0,.int .i64 0,.int .i64 0,.int .i64 0],.bool tail] w fun e w'=>zD X w g (if 0 < lenA m.D (m.s.top 1).n then {m with kind:=4} else AM.act (room X.cells) X.cd m (baseA m.D m.out k (m.s.top 0)) 2 (fun m v=>if tail then m.giveS v else {m with s:=(m.s.drop 2).put v,kind:=0})) e w':=by
 have hvl2:=h.vlen
 have hi0:=h.top 0 (by omega)
 have hi1:=h.top 1 (by omega)
 have hw0:=h.topwf 0 (by omega)
 generalize hT0:g.s.top 0=c0 at *
 generalize hT1:g.s.top 1=c1 at *
 obtain⟨ap,an⟩:=c0
 obtain⟨pp,pn⟩:=c1
 simp only
 obtain⟨nk,hnk⟩:∃ nk:Nat,nk=60000+k:=⟨_,rfl⟩
 rw[<-hnk]
 have hsub:IntKind.i64.wrap ((nk:Int) - 60000)=(k:Int):=by
  rw[IntKind.wrap_i64]
  omega
 obtain⟨j1,m1,a1,o1⟩:=zbe h (.cells #[.int .i64 nk,.bool pp,.int .i64 pn,.bool ap,.int .i64 an,.int .i64 0,.int .i64 0,.int .i64 0,.int .i64 0] 69)
 have hp1:(m.s.top 1).p=true:=by
  unfold thK at hth
  simp only[Bool.and_eq_true] at hth
  exact hth.1
 obtain⟨-,u,hu,pf,hpf,hpg⟩:=j1.view hi1 hp1
 have HLen:Hid (∀ wx,Kp [] (w.alloc (.cells #[.int .i64 nk,.bool pp,.int .i64 pn,.bool ap,.int .i64 an,.int .i64 0,.int .i64 0,.int .i64 0,.int .i64 0] 69)) wx->Calls Tryz.prog 76 #[.pointer (some ⟨X.hp,0,none⟩),.int .i64 pn] wx fun e w'=>e=.returned (.int .i64 (lenA m.D (m.s.top 1).n:Nat))/\Kp [] (w.alloc (.cells #[.int .i64 nk,.bool pp,.int .i64 pn,.bool ap,.int .i64 an,.int .i64 0,.int .i64 0,.int .i64 0,.int .i64 0] 69)) w'):=fun wx hx=>by
  unfold lenA
  rw[hu]
  exact(hpg wx hx).1
 have HF:Hid (∀ wx,Kp [] (w.alloc (.cells #[.int .i64 nk,.bool pp,.int .i64 pn,.bool ap,.int .i64 an,.int .i64 0,.int .i64 0,.int .i64 0,.int .i64 0] 69)) wx->(wx.cell? ⟨X.mm,2,none⟩=some (.pointer (some ⟨X.hp,0,none⟩))/\X.mm < wx.heap.size)/\wx.cell? ⟨X.mm,18+k,none⟩=some (sg ((baseT[k]?).getD []))/\wx.cell? ⟨w.heap.size,0,none⟩=some (.int .i64 nk)/\wx.cell? ⟨w.heap.size,2,none⟩=some (.int .i64 pn)/\wx.cell? ⟨w.heap.size,3,none⟩=some (.bool ap)/\wx.cell? ⟨w.heap.size,4,none⟩=some (.int .i64 an)/\w.heap.size < wx.heap.size):=fun wx hx=>by
  have e3:=(hx.block _ o1.1 (by simp)).trans a1
  have hb1:=j1.box.kp hx (by simp)
  refine⟨⟨hb1.heap.1,hb1.lt⟩,?_,?_,?_,?_,?_,(sz e3)⟩
  ·rw[hb1.at]
   have hc:k=0\/k=1\/k=2\/k=3\/k=4\/k=5\/k=6\/k=7\/k=8\/k=9\/k=10\/k=11:=by omega
   rcases hc with rfl | rfl | rfl | rfl | rfl | rfl | rfl | rfl | rfl | rfl | rfl | rfl <;> rfl
  ·simp[World.cell?,e3]
  ·simp[World.cell?,e3]
  ·simp[World.cell?,e3]
  ·simp[World.cell?,e3]
 have HX:Hid (_/\_/\_/\_/\_/\_/\_/\_/\_):=⟨hd,hL,hk0,hE,hT,hn,hnx,hv,hz⟩
 have HY:Hid (_/\_/\_/\_):=⟨hvl,hsb,hvb,htb⟩
 have H0:Hid (_/\_/\_/\_/\_):=⟨hi0,hw0,hok,hT0.symm,hk⟩
 have HJ1:Hid (_/\_):=⟨j1,m1⟩
 generalize hM:((if 0 < lenA m.D (m.s.top 1).n then {m with kind:=4} else AM.act (room X.cells) X.cd m (baseA m.D m.out k (m.s.top 0)) 2 (fun m v=>if tail then m.giveS v else {m with s:=(m.s.drop 2).put v,kind:=0})):AM)=M
 have HM:=zh hM
 clear hM
 have HRd:Hid (∀ wx,Kp [] (w.alloc (.cells #[.int .i64 nk,.bool pp,.int .i64 pn,.bool ap,.int .i64 an,.int .i64 0,.int .i64 0,.int .i64 0,.int .i64 0] 69)) wx->Rd X w.heap.size (.cells #[.int .i64 nk,.bool pp,.int .i64 pn,.bool ap,.int .i64 an,.int .i64 0,.int .i64 0,.int .i64 0,.int .i64 0] 69) wx):=fun wx hx=>⟨(hx.block _ o1.1 (by simp)).trans a1,_,j1.box.kp hx (by simp),rfl⟩
 have HO:=zh o1
 clear h hd hL hk0 hE hT hn hnx hv hvl hsb hvb htb hz hi0 hi1 hw0 hok hT0 hT1 hth hvl2 j1 m1 a1 o1 hp1 hpf hpg hu hnk
 have HK0:Hid (Kp [] (w.alloc (.cells #[.int .i64 nk,.bool pp,.int .i64 pn,.bool ap,.int .i64 an,.int .i64 0,.int .i64 0,.int .i64 0,.int .i64 0] 69)) (w.alloc (.cells #[.int .i64 nk,.bool pp,.int .i64 pn,.bool ap,.int .i64 an,.int .i64 0,.int .i64 0,.int .i64 0,.int .i64 0] 69)).drew):=kr.drew
 go_enter Tryz.func79,Tryz.ntmps79
 go_upto_region 1 with fail
 generalize w.alloc _=w1 at *
 refine rQ HK0.o (fun ops Hops=>?_)
 repeat
  (refine wQ ?_;apply xI;(·intro wx hwx;obtain⟨⟨x0,x1⟩,x2,y0,y1,y2,y3,y4⟩:=HF.o wx hwx;go_simp <;> first | with_reducible rfl | with_reducible exact⟨rfl,rfl⟩ | exact HLen.o _ hwx);try go_simp)
 refine wpQuiet_nil ?_
 clear Hops ops
 intro w2 hw2
 by_cases hl:0 < lenA m.D (m.s.top 1).n
 ·have hl':(0:Int) < (lenA m.D (m.s.top 1).n:Int):=by omega
  have Q:Hid (zD X w g M (.returned (.int .i64 4)) w2):=by
   unfold Hid
   rw[<-HM.o,if_pos hl]
   refine zD.of 4 rfl (g':=g) (R':=R) ?_ (HJ1.o.2.trans (Mv.zk hw2))
   have h7:=HJ1.o.1.kp hw2
   rw[<-AM.k0_eq HX.o.2.2.1] at h7
   exact h7
  clear hw2 hl
  go_wp2_with fail
  exact bR (by simp[results,Tryz.results79,go_sem]) Q.o
 ·have hl':¬ ((0:Int) < (lenA m.D (m.s.top 1).n:Int)):=by omega
  have Hw2:=zh hw2.drew
  have Hw2b:=zh hw2
  have HBs:Hid (∀ wx,Kp [] w1 wx->Calls Tryz.prog 99 #[.pointer (some ⟨X.mm,0,none⟩),sg ((baseT[k]?).getD []),.agg #[.bool ap,.int .i64 an]] wx fun e w'=>zP X wx g m (baseA m.D m.out k (m.s.top 0)) e w'):=fun wx hx=>zun (HJ1.o.1.kp hx) HX.o.1 HX.o.2.1 HX.o.2.2.2.2.2.1 HX.o.2.2.2.2.2.2.1 ⟨ap,an⟩ (m.s.top 0) H0.o.1 H0.o.2.1 H0.o.2.2.1 ⟨H0.o.2.2.2.1,rfl⟩ (by have:=HX.o.2.2.2.2.2.2.2.1;omega) k H0.o.2.2.2.2
  rw[if_neg hl] at HM
  have hkI:(k:Int) < 12:=by have:=H0.o.2.2.2.2;omega
  clear hw2 hl
  go_upto_region 3 with fail
  clear hl'
  have HBk:Hid (∀ wx,Rd X w.heap.size (.cells #[.int .i64 nk,.bool pp,.int .i64 pn,.bool ap,.int .i64 an,.int .i64 0,.int .i64 0,.int .i64 0,.int .i64 0] 69) wx->wx.cell? ⟨X.mm,18+k,none⟩=some (sg ((baseT[k]?).getD []))/\X.mm < wx.heap.size/\wx.cell? ⟨w.heap.size,0,none⟩=some (.int .i64 nk)/\wx.cell? ⟨w.heap.size,3,none⟩=some (.bool ap)/\wx.cell? ⟨w.heap.size,4,none⟩=some (.int .i64 an)/\w.heap.size < wx.heap.size):=fun wx hx=>by
   obtain⟨e3,f,hb1,-⟩:=hx
   have hk:=H0.o.2.2.2.2
   refine⟨?_,hb1.lt,?_,?_,?_,(sz e3)⟩
   ·rw[hb1.at]
    have hc:k=0\/k=1\/k=2\/k=3\/k=4\/k=5\/k=6\/k=7\/k=8\/k=9\/k=10\/k=11:=by omega
    rcases hc with rfl | rfl | rfl | rfl | rfl | rfl | rfl | rfl | rfl | rfl | rfl | rfl <;> rfl
   ·simp[World.cell?,e3]
   ·simp[World.cell?,e3]
   ·simp[World.cell?,e3]
  refine zao (C:=fun wx=>Rd X w.heap.size (.cells #[.int .i64 nk,.bool pp,.int .i64 pn,.bool ap,.int .i64 an,.int .i64 0,.int .i64 0,.int .i64 0,.int .i64 0] 69) wx) (by kernel_rfl) ?_
  refine qA 0 rfl ?_
  apply xI
  (intro wx hwx;go_simp <;> rfl)
  refine qA 1 rfl ?_
  apply xI
  (intro wx hwx;go_simp <;> rfl)
  refine qA 2 rfl ?_
  apply xI
  (intro wx hwx;go_simp <;> rfl)
  refine qA 3 rfl ?_
  apply xI
  (intro wx hwx;obtain⟨x0,x1,y0,y1,y2,y3⟩:=HBk.o wx hwx;go_simp <;> rfl)
  refine qA 4 rfl ?_
  apply xI
  (intro wx hwx;go_simp <;> rfl)
  refine qA 5 rfl ?_
  apply xI
  (intro wx hwx;go_simp <;> rfl)
  refine qA 6 rfl ?_
  apply xI
  (intro wx hwx;go_simp <;> rfl)
  refine qA 7 rfl ?_
  apply xI
  (intro wx hwx;go_simp <;> rfl)
  refine qA 8 rfl ?_
  apply xI
  (intro wx hwx;obtain⟨x0,x1,y0,y1,y2,y3⟩:=HBk.o wx hwx;go_simp <;> rfl)
  refine qA 9 rfl ?_
  apply xI
  (intro wx hwx;go_simp <;> rfl)
  refine qA 10 rfl ?_
  apply xI
  (intro wx hwx;obtain⟨x0,x1,y0,y1,y2,y3⟩:=HBk.o wx hwx;go_simp <;> rfl)
  clear hsub
  refine zkd (i:=11) (j:=15) (HRd.o _ Hw2.o) rfl rfl (by kernel_rfl) (fun K hK=>?_) (fun K hK=>?_)
  ·go_simp
   refine cM (HBs.o _ Hw2.o) ?_
   intro e9 w9 q
   have hC9:Rd X w.heap.size (.cells #[.int .i64 nk,.bool pp,.int .i64 pn,.bool ap,.int .i64 an,.int .i64 0,.int .i64 0,.int .i64 0,.int .i64 0] 69) w9:=by
    obtain⟨g9,hm9⟩:=q.mv
    obtain⟨f9,hf9,he9⟩:=q.box
    have o1':Off X w2.drew g w.heap.size:=⟨lL HO.o.1 Hw2.o.size,HO.o.2⟩
    exact⟨(o1'.mv hm9).2.trans (HRd.o _ Hw2.o).1,f9,hf9,he9⟩
   have HC9:=zh (fun wx (hx:Kp [] w9 wx)=>hC9.kp hx)
   have Hmv:=zh (HJ1.o.2.trans (Mv.zk Hw2.o))
   clear hC9 hkI
   cases q with
   | fail f m' hf w9 g9 R9 hJ9 hm9=>
    have HQ:Hid (_/\J X (w9.alloc (.cells #[.bool false,.int .i64 0] 67)) g9 m' R9/\Mv X w g (w9.alloc (.cells #[.bool false,.int .i64 0] 67)) g9):=⟨hf,hJ9.kp kA,Hmv.o.trans (hm9.trans (Mv.zk kA))⟩
    clear hf hJ9 hm9
    refine hK _ _ ?_
    clear hK K
    refine qA 12 rfl ?_
    apply xI
    (intro wx hwx;go_simp <;> rfl)
    refine qA 13 rfl ?_
    apply xI
    (intro wx hwx;go_simp <;> rfl)
    refine qA 14 rfl ?_
    apply xI
    (intro wx hwx;go_simp <;> rfl)
    refine oA 15 (HC9.o _ kr) rfl (fun K hK=>?_)
    go_simp
    refine hK _ _ ?_
    clear hK K
    refine oA 16 (HC9.o _ kA) rfl (fun K hK=>?_)
    go_simp
    refine hK _ _ ?_
    clear hK K
    refine oA 17 (HC9.o _ kA) rfl (fun K hK=>?_)
    go_simp
    refine hK _ _ ?_
    clear hK K
    refine zag (HC9.o _ kA) (by kernel_rfl) ?_
    go_simp
    have hf0:=HQ.o.1.ne
    have HFl:Hid _:=zfx HQ.o.1 HQ.o.2.1 HX.o.2.2.1 HX.o.2.2.2.1 HX.o.2.2.2.2.1 HX.o.2.2.2.2.2.1 HX.o.2.2.2.2.2.2.1 2 HX.o.2.2.2.2.2.2.2.1 HX.o.2.2.2.2.2.2.2.2 (fun m v=>if tail then m.giveS v else {m with s:=(m.s.drop 2).put v,kind:=0})
    rw[HM.o] at HFl
    have HV:=zh HQ.o.2.2
    go_wp2_with fail
    refine cM HFl.o ?_
    intro e w10 q
    have q2:=q.from HV.o
    clear q
    cases q2 with
    | mk w10 g10 R10 hJ10 hm10=>
     have Q:Hid (zD X w g M (.returned (.int .i64 M.kind)) w10):=.mk w10 g10 R10 hJ10 hm10
     clear hJ10 hm10
     generalize M.kind=kd at *
     go_wp2_with fail
     exact bR (by simp[results,Tryz.results79,go_sem]) Q.o
   | val p9 v m' hv w9 g9 R9 hJ9 hp hw hm9=>
    obtain⟨pp9,pn9⟩:=p9
    simp only
    have HQ:Hid (_/\J X (w9.alloc (.cells #[.bool pp9,.int .i64 pn9] 67)) g9 m' R9/\_/\_/\Mv X w g (w9.alloc (.cells #[.bool pp9,.int .i64 pn9] 67)) g9/\(w9.alloc (.cells #[.bool pp9,.int .i64 pn9] 67)).heap[w9.heap.size]? = some (.cells #[.bool pp9,.int .i64 pn9] 67)/\Off X (w9.alloc (.cells #[.bool pp9,.int .i64 pn9] 67)) g9 w9.heap.size):=⟨hv,hJ9.kp kA,hp,hw,Hmv.o.trans (hm9.trans (Mv.zk kA)),zab _ _,hJ9.off (Nat.le_refl _) (by simp)⟩
    clear hv hJ9 hp hw hm9
    refine hK _ _ ?_
    clear hK K
    refine qA 12 rfl ?_
    apply xI
    (intro wx hwx;go_simp <;> rfl)
    refine qA 13 rfl ?_
    apply xI
    (intro wx hwx;go_simp <;> rfl)
    refine qA 14 rfl ?_
    apply xI
    (intro wx hwx;go_simp <;> rfl)
    refine oA 15 (HC9.o _ kr) rfl (fun K hK=>?_)
    go_simp
    refine hK _ _ ?_
    clear hK K
    refine oA 16 (HC9.o _ kA) rfl (fun K hK=>?_)
    go_simp
    refine hK _ _ ?_
    clear hK K
    refine oA 17 (HC9.o _ kA) rfl (fun K hK=>?_)
    go_simp
    refine hK _ _ ?_
    clear hK K
    refine zag (HC9.o _ kA) (by kernel_rfl) ?_
    go_simp
    obtain⟨hs1,hs2⟩:=HQ.o.1.s
    have HMv:Hid ((if tail then m'.giveS v else {m' with s:=(m'.s.drop 2).put v,kind:=0})=M):=by
     unfold Hid
     rw[<-HM.o,HQ.o.1.act]
    have hk9:m'.kind=0:=by rw[hs2];exact HX.o.2.2.1
    obtain⟨f0,f1,-,-,f2⟩:=zaa HQ.o.2.2.2.2.2.1
    cases tail with
    | true=>
     have HG:Hid _:=zik HQ.o.2.1 hk9 (by rw[hs1];exact HX.o.2.2.2.2.2.1) (by rw[hs1];exact HY.o.2.1) (by rw[hs1];exact HY.o.2.2.1) (by rw[hs1];exact HY.o.2.2.2) (by rw[hs1];exact HY.o.1) ⟨pp9,pn9⟩ v HQ.o.2.2.1 HQ.o.2.2.2.1
     rw[if_pos rfl] at HMv
     rw[HMv.o] at HG
     simp only at HG
     have HV:=zh HQ.o.2.2.2.2.1
     clear hs1 hs2 hk9
     go_wp2_with fail
     refine cM HG.o ?_
     intro e w10 q
     have q2:=q.from HV.o
     clear q
     cases q2 with
     | mk w10 g10 R10 hJ10 hm10=>
      have Q:Hid (zD X w g M (.returned (.int .i64 M.kind)) w10):=.mk w10 g10 R10 hJ10 hm10
      clear hJ10 hm10 f0 f1 f2
      generalize M.kind=kd at *
      go_wp2_with fail
      exact bR (by simp[results,Tryz.results79,go_sem]) Q.o
    | false=>
     have HD:Hid _:=zba HQ.o.2.1 2 (by rw[hs1];exact HX.o.2.2.2.2.2.2.2.1)
     rw[if_neg Bool.false_ne_true] at HMv
     clear f0 f1 f2
     go_wp2_with fail
     refine cM HD.o ?_
     rintro e w10 ⟨rfl,g10,hp10⟩
     obtain⟨-,hkb⟩:=HQ.o.2.2.2.2.2.2.mv hp10.mv
     obtain⟨f0,f1,-,-,f2⟩:=zaa (hkb.trans HQ.o.2.2.2.2.2.1)
     have HP:Hid _:=zgl hp10.j ⟨pp9,pn9⟩ v HQ.o.2.2.1 HQ.o.2.2.2.1 (by
      have h8:=HY.o.1
      show(m'.s.drop 2).vA.length+1<=_
      unfold St.drop
      simp only[List.length_take]
      rw[hs1]
      omega)
     simp only at HP
     have HV:Hid (_/\_):=⟨HQ.o.2.2.2.2.1.trans hp10.mv,hk9⟩
     clear hs1 hs2 hk9 hp10 hkb
     go_wp2_with fail
     refine cM HP.o ?_
     rintro e w11 ⟨rfl,g11,hp11⟩
     have Q:Hid (zD X w g M (.returned (.int .i64 0)) w11):=by
      unfold Hid
      rw[<-HMv.o]
      refine zD.of 0 rfl (g':=g11) (R':=R9) ?_ (HV.o.1.trans hp11.mv)
      have h7:=hp11.j
      rw[<-AM.k0_s m' HV.o.2 ((m'.s.drop 2).put v)] at h7
      exact h7
     clear hp11 f0 f1 f2
     go_wp2_with fail
     exact bR (by simp[results,Tryz.results79,go_sem]) Q.o
  ·go_simp
   refine hK _ _ ?_
   clear hK K
   have hk3:Kp [] w1 (w2.alloc (.cells #[.bool false,.int .i64 0] 67)).drew:=(Hw2b.o.trans kA).drew
   have hb3:(w2.alloc (.cells #[.bool false,.int .i64 0] 67)).drew.heap[w2.heap.size]? = some (.cells #[.bool false,.int .i64 0] 67):=zab w2 _
   have ho3:Off X (w2.alloc (.cells #[.bool false,.int .i64 0] 67)).drew g w2.heap.size:=(HJ1.o.1.kp Hw2b.o).off (Nat.le_refl _) (by simp)
   have hlt:=lL HO.o.1 Hw2b.o.size
   have hwc:=(HJ1.o.1.kp Hw2b.o).bl.size
   have HBx:Hid _:=HBs.o _ hk3
   have HR3:=zh (HRd.o _ hk3)
   have ho1:Off X (w2.alloc (.cells #[.bool false,.int .i64 0] 67)).drew g w.heap.size:=⟨lL HO.o.1 hk3.size,HO.o.2⟩
   have Hmv:=zh (HJ1.o.2.trans (Mv.zk hk3))
   clear hkI hk3
   generalize (w2.alloc _).drew=w3 at *
   generalize w2.heap.size=b7 at *
   refine oA 11 HR3.o rfl (fun K hK=>?_)
   go_simp
   refine cM HBx.o ?_
   intro e9 w9 q
   have hC9:Rd X w.heap.size (.cells #[.int .i64 nk,.bool pp,.int .i64 pn,.bool ap,.int .i64 an,.int .i64 0,.int .i64 0,.int .i64 0,.int .i64 0] 69) w9:=by
    obtain⟨g9,hm9⟩:=q.mv
    obtain⟨f9,hf9,he9⟩:=q.box
    exact⟨(ho1.mv hm9).2.trans HR3.o.1,f9,hf9,he9⟩
   have hmm:X.mm≠b7:=fun e=>ho3.2 (by rw[<-e];exact za3)
   have HC9:Hid (_/\∀ u1 u2,Rd X w.heap.size (.cells #[.int .i64 nk,.bool pp,.int .i64 pn,.bool ap,.int .i64 an,.int .i64 0,.int .i64 0,.int .i64 0,.int .i64 0] 69) ((w9.setCell ⟨b7,0,none⟩ u1).setCell ⟨b7,1,none⟩ u2)):=⟨hC9,fun u1 u2=>hC9.set2 (by omega) hmm u1 u2⟩
   clear hC9 hmm ho1
   cases q with
   | fail f m' hf w9 g9 R9 hJ9 hm9=>
    obtain⟨ho9,hk9⟩:=ho3.mv hm9
    have hb9:=hk9.trans hb3
    obtain⟨c0,c1,z0,z1,cl⟩:=zaa hb9
    have HQ:Hid (_/\J X ((w9.setCell ⟨b7,0,none⟩ (.bool false)).setCell ⟨b7,1,none⟩ (.int .i64 0)) g9 m' R9/\Mv X w g ((w9.setCell ⟨b7,0,none⟩ (.bool false)).setCell ⟨b7,1,none⟩ (.int .i64 0)) g9):=⟨hf,hJ9.box2 ho9 hwc _ _,((Hmv.o.trans hm9).setOff (by omega) _ _).setOff (by omega) _ _⟩
    clear hf hJ9 hm9 ho9 hk9 hb9 hb3 ho3 hwc hlt
    refine hK _ _ ?_
    clear hK K
    refine qA 12 rfl ?_
    apply xI
    (intro wx hwx;go_simp <;> rfl)
    refine qA 13 rfl ?_
    apply xI
    (intro wx hwx;go_simp <;> rfl)
    refine qA 14 rfl ?_
    apply xI
    (intro wx hwx;go_simp <;> rfl)
    refine oA 16 HC9.o.1 rfl (fun K hK=>?_)
    go_simp
    refine hK _ _ ?_
    clear hK K
    refine oA 17 (HC9.o.2 _ _) rfl (fun K hK=>?_)
    go_simp
    refine hK _ _ ?_
    clear hK K
    refine zag (HC9.o.2 _ _) (by kernel_rfl) ?_
    go_simp
    clear c0 c1 z0 z1 cl
    have hf0:=HQ.o.1.ne
    have HFl:Hid _:=zfx HQ.o.1 HQ.o.2.1 HX.o.2.2.1 HX.o.2.2.2.1 HX.o.2.2.2.2.1 HX.o.2.2.2.2.2.1 HX.o.2.2.2.2.2.2.1 2 HX.o.2.2.2.2.2.2.2.1 HX.o.2.2.2.2.2.2.2.2 (fun m v=>if tail then m.giveS v else {m with s:=(m.s.drop 2).put v,kind:=0})
    rw[HM.o] at HFl
    have HV:=zh HQ.o.2.2
    go_wp2_with fail
    refine cM HFl.o ?_
    intro e w10 q
    have q2:=q.from HV.o
    clear q
    cases q2 with
    | mk w10 g10 R10 hJ10 hm10=>
     have Q:Hid (zD X w g M (.returned (.int .i64 M.kind)) w10):=.mk w10 g10 R10 hJ10 hm10
     clear hJ10 hm10
     generalize M.kind=kd at *
     go_wp2_with fail
     exact bR (by simp[results,Tryz.results79,go_sem]) Q.o
   | val p9 v m' hv w9 g9 R9 hJ9 hp hw hm9=>
    obtain⟨pp9,pn9⟩:=p9
    simp only
    obtain⟨ho9,hk9⟩:=ho3.mv hm9
    have hb9:=hk9.trans hb3
    obtain⟨c0,c1,z0,z1,cl⟩:=zaa hb9
    have HQ:Hid (_/\J X ((w9.setCell ⟨b7,0,none⟩ (.bool pp9)).setCell ⟨b7,1,none⟩ (.int .i64 pn9)) g9 m' R9/\_/\_/\Mv X w g ((w9.setCell ⟨b7,0,none⟩ (.bool pp9)).setCell ⟨b7,1,none⟩ (.int .i64 pn9)) g9/\(((w9.setCell ⟨b7,0,none⟩ (.bool pp9)).setCell ⟨b7,1,none⟩ (.int .i64 pn9))).heap[b7]? = some (.cells #[.bool pp9,.int .i64 pn9] 67)/\Off X ((w9.setCell ⟨b7,0,none⟩ (.bool pp9)).setCell ⟨b7,1,none⟩ (.int .i64 pn9)) g9 b7):=⟨hv,hJ9.box2 ho9 hwc _ _,hp,hw,((Hmv.o.trans hm9).setOff (by omega) _ _).setOff (by omega) _ _,zae hb9 _ _,⟨by have:=ho9.1;simpa using this,ho9.2⟩⟩
    clear hv hJ9 hp hw hm9 ho9 hk9 hb9 hb3 ho3 hwc hlt
    refine hK _ _ ?_
    clear hK K
    refine qA 12 rfl ?_
    apply xI
    (intro wx hwx;go_simp <;> rfl)
    refine qA 13 rfl ?_
    apply xI
    (intro wx hwx;go_simp <;> rfl)
    refine qA 14 rfl ?_
    apply xI
    (intro wx hwx;go_simp <;> rfl)
    refine oA 16 HC9.o.1 rfl (fun K hK=>?_)
    go_simp
    refine hK _ _ ?_
    clear hK K
    refine oA 17 (HC9.o.2 _ _) rfl (fun K hK=>?_)
    go_simp
    refine hK _ _ ?_
    clear hK K
    refine zag (HC9.o.2 _ _) (by kernel_rfl) ?_
    go_simp
    clear c0 c1 z0 z1 cl
    obtain⟨hs1,hs2⟩:=HQ.o.1.s
    have HMv:Hid ((if tail then m'.giveS v else {m' with s:=(m'.s.drop 2).put v,kind:=0})=M):=by
     unfold Hid
     rw[<-HM.o,HQ.o.1.act]
    have hk9:m'.kind=0:=by rw[hs2];exact HX.o.2.2.1
    obtain⟨f0,f1,-,-,f2⟩:=zaa HQ.o.2.2.2.2.2.1
    cases tail with
    | true=>
     have HG:Hid _:=zik HQ.o.2.1 hk9 (by rw[hs1];exact HX.o.2.2.2.2.2.1) (by rw[hs1];exact HY.o.2.1) (by rw[hs1];exact HY.o.2.2.1) (by rw[hs1];exact HY.o.2.2.2) (by rw[hs1];exact HY.o.1) ⟨pp9,pn9⟩ v HQ.o.2.2.1 HQ.o.2.2.2.1
     rw[if_pos rfl] at HMv
     rw[HMv.o] at HG
     simp only at HG
     have HV:=zh HQ.o.2.2.2.2.1
     clear hs1 hs2 hk9
     go_wp2_with fail
     refine cM HG.o ?_
     intro e w10 q
     have q2:=q.from HV.o
     clear q
     cases q2 with
     | mk w10 g10 R10 hJ10 hm10=>
      have Q:Hid (zD X w g M (.returned (.int .i64 M.kind)) w10):=.mk w10 g10 R10 hJ10 hm10
      clear hJ10 hm10 f0 f1 f2
      generalize M.kind=kd at *
      go_wp2_with fail
      exact bR (by simp[results,Tryz.results79,go_sem]) Q.o
    | false=>
     have HD:Hid _:=zba HQ.o.2.1 2 (by rw[hs1];exact HX.o.2.2.2.2.2.2.2.1)
     rw[if_neg Bool.false_ne_true] at HMv
     clear f0 f1 f2
     go_wp2_with fail
     refine cM HD.o ?_
     rintro e w10 ⟨rfl,g10,hp10⟩
     obtain⟨-,hkb⟩:=HQ.o.2.2.2.2.2.2.mv hp10.mv
     obtain⟨f0,f1,-,-,f2⟩:=zaa (hkb.trans HQ.o.2.2.2.2.2.1)
     have HP:Hid _:=zgl hp10.j ⟨pp9,pn9⟩ v HQ.o.2.2.1 HQ.o.2.2.2.1 (by
      have h8:=HY.o.1
      show(m'.s.drop 2).vA.length+1<=_
      unfold St.drop
      simp only[List.length_take]
      rw[hs1]
      omega)
     simp only at HP
     have HV:Hid (_/\_):=⟨HQ.o.2.2.2.2.1.trans hp10.mv,hk9⟩
     clear hs1 hs2 hk9 hp10 hkb
     go_wp2_with fail
     refine cM HP.o ?_
     rintro e w11 ⟨rfl,g11,hp11⟩
     have Q:Hid (zD X w g M (.returned (.int .i64 0)) w11):=by
      unfold Hid
      rw[<-HMv.o]
      refine zD.of 0 rfl (g':=g11) (R':=R9) ?_ (HV.o.1.trans hp11.mv)
      have h7:=hp11.j
      rw[<-AM.k0_s m' HV.o.2 ((m'.s.drop 2).put v)] at h7
      exact h7
     clear hp11 f0 f1 f2
     go_wp2_with fail
     exact bR (by simp[results,Tryz.results79,go_sem]) Q.o
theorem zmx(h:J X w g m R)(hd:okD X.cd m.D)(hL:LibIn X.wc)(hk0:m.kind=0)(hE:ExIn X.wc)(hT:zX X.wc X.pt X.cd.texts)(hn:0 < m.s.cA.length)(hnx:m.next+1<=1000000000)(hv:2<=m.s.vA.length)(hvl:m.s.vA.length+1<=1000000000)(hsb:m.s.cur.sb<=m.s.sA.length)(hvb:m.s.cur.vb<=m.s.vA.length)(htb:m.s.cur.tb<=m.s.tA.length)(htg:thK m.D (m.s.top 1) 1=true->0<=tagA m.D (m.s.top 1).n/\tagA m.D (m.s.top 1).n < 60012)(hok:okC (m.s.top 0))(hz:RzOk (m.s.drop 2))(tail:Bool):Calls Tryz.prog 53 #[.pointer (some ⟨X.mm,0,none⟩),.bool tail] w fun e w'=>zD X w g (AM.call (room X.cells) X.cd m tail) e w':=by
 have hvl2:=h.vlen
 have hi0:=h.top 0 (by omega)
 have hi1:=h.top 1 (by omega)
 have hw0:=h.topwf 0 (by omega)
 have hw1:=h.topwf 1 (by omega)
 have HT1:Hid (Calls Tryz.prog 49 #[.pointer (some ⟨X.mm,0,none⟩),.int .i64 1] w fun e w'=>e=.returned (.agg #[.bool (g.s.top 1).p,.int .i64 (g.s.top 1).n])/\Kp [] w w'):=zbc h 1 (by omega) w kr
 have HT0:Hid (∀ wx,Kp [] w wx->Calls Tryz.prog 49 #[.pointer (some ⟨X.mm,0,none⟩),.int .i64 0] wx fun e w'=>e=.returned (.agg #[.bool (g.s.top 0).p,.int .i64 (g.s.top 0).n])/\Kp [] w w'):=zbc h 0 (by omega)
 have HCB:Hid (∀ (wx:World),Kp [] w wx->∀ (k:Nat),k < 12->thK m.D (m.s.top 1) 1=true->_):=fun wx hx k hk hth=>zj8 (h.kp hx) hd hL hk0 hE hT hn hnx hv hvl hsb hvb htb k hk hth hok hz tail
 generalize hT0:g.s.top 0=c0 at *
 generalize hT1:g.s.top 1=c1 at *
 obtain⟨ap,an⟩:=c0
 obtain⟨pp,pn⟩:=c1
 simp only at HT0 HT1 HCB
 have HJ:Hid (_/\_):=⟨h,hk0⟩
 have HX:Hid (_/\_/\_/\_/\_/\_/\_):=⟨hi1,hw1,hi0,hw0,htg,hn,hv⟩
 have HY:Hid (_/\_/\_):=⟨hsb,hvb,htb⟩
 generalize hM:AM.call (room X.cells) X.cd m tail=M
 have HM:=zh hM
 clear hM h hd hL hk0 hE hT hn hnx hv hvl hsb hvb htb htg hok hz hi0 hi1 hw0 hw1 hT0 hT1 hvl2
 go_enter Tryz.func53,Tryz.ntmps53
 go_wp2_with fail
 refine cM HT1.o ?_
 rintro e w1 ⟨rfl,hw1⟩
 have H0:Hid _:=HT0.o w1 hw1
 clear hw1
 go_wp2_with fail
 refine cM H0.o ?_
 rintro e w2 ⟨rfl,hw2⟩
 have Hk3:Hid (Kp [] w (w2.alloc (.cells #[.int .i64 0,.bool pp,.int .i64 pn,.bool ap,.int .i64 an,.int .i64 0,.int .i64 0,.int .i64 0,.int .i64 0] 69))):=hw2.trans kA
 have Hb3:Hid ((w2.alloc (.cells #[.int .i64 0,.bool pp,.int .i64 pn,.bool ap,.int .i64 an,.int .i64 0,.int .i64 0,.int .i64 0,.int .i64 0] 69)).heap[w2.heap.size]? = some (.cells #[.int .i64 0,.bool pp,.int .i64 pn,.bool ap,.int .i64 an,.int .i64 0,.int .i64 0,.int .i64 0,.int .i64 0] 69)):=zab w2 _
 have Ho3:Hid (Off X (w2.alloc (.cells #[.int .i64 0,.bool pp,.int .i64 pn,.bool ap,.int .i64 an,.int .i64 0,.int .i64 0,.int .i64 0,.int .i64 0] 69)) g w2.heap.size):=(HJ.o.1.kp hw2).off (Nat.le_refl _) (by simp)
 have Hsz:=zh hw2.size
 have g0:(w2.alloc (.cells #[.int .i64 0,.bool pp,.int .i64 pn,.bool ap,.int .i64 an,.int .i64 0,.int .i64 0,.int .i64 0,.int .i64 0] 69)).cell? ⟨w2.heap.size,1,none⟩=some (.bool pp):=by simp only[World.cell?,Hb3.o];rfl
 have g1:(w2.alloc (.cells #[.int .i64 0,.bool pp,.int .i64 pn,.bool ap,.int .i64 an,.int .i64 0,.int .i64 0,.int .i64 0,.int .i64 0] 69)).cell? ⟨w2.heap.size,2,none⟩=some (.int .i64 pn):=by simp only[World.cell?,Hb3.o];rfl
 have g2:=Ho3.o.1
 clear hw2
 go_upto_region 2 with fail
 generalize w2.alloc _=w3 at *
 generalize w2.heap.size=b5 at *
 have H1:Hid _:=zbl (HJ.o.1.kp Hk3.o) ⟨pp,pn⟩ (m.s.top 1) HX.o.1 1 w3 kr
 simp only at H1
 cases ht:thK m.D (m.s.top 1) 1 with
 | false=>
  rw[ht] at H1
  have HM4:Hid (({m with kind:=4} : AM)=M):=by
   unfold Hid
   rw[<-HM.o]
   unfold AM.call
   rw[ht,if_neg Bool.false_ne_true]
  go_wp2_with fail
  refine cM H1.o ?_
  rintro e w4 ⟨rfl,hw4⟩
  have Q:Hid (zD X w g M (.returned (.int .i64 4)) w4):=by
   unfold Hid
   rw[<-HM4.o]
   refine zD.of 4 rfl (g':=g) (R':=R) ?_ (Mv.zk (Hk3.o.trans hw4))
   have h7:=HJ.o.1.kp (Hk3.o.trans hw4)
   rw[<-AM.k0_eq HJ.o.2] at h7
   exact h7
  clear hw4 g0 g1 g2
  go_wp2_with fail
  exact bR (by simp[results,Tryz.results53,go_sem]) Q.o
 | true=>
  rw[ht] at H1
  obtain⟨htg0,htg1⟩:=HX.o.2.2.2.2.1 ht
  have hp1:(m.s.top 1).p=true:=by
   unfold thK at ht
   simp only[Bool.and_eq_true] at ht
   exact ht.1
  have Ht:=zh ht
  clear ht
  go_wp2_with fail
  refine cM H1.o ?_
  rintro e w4 ⟨rfl,hw4⟩
  clear g0 g1 g2
  have hk4:=Hk3.o.trans hw4
  have hb4:=(hw4.block _ Ho3.o.1 (by simp)).trans Hb3.o
  obtain⟨-,u,hu,pf,hpf,hpg⟩:=(HJ.o.1.kp hk4).view HX.o.1 hp1
  have HTg:Hid (∀ wx,Kp [] w4 wx->Calls Tryz.prog 78 #[.pointer (some ⟨X.hp,0,none⟩),.int .i64 pn] wx fun e w'=>e=.returned (.int .i64 (tagA m.D (m.s.top 1).n))/\Kp [] w4 w'):=fun wx hx=>by
   unfold tagA
   rw[hu]
   exact(hpg wx hx).2.1
  have HF:Hid (∀ wx,Kp [] w4 wx->(wx.cell? ⟨X.mm,2,none⟩=some (.pointer (some ⟨X.hp,0,none⟩))/\X.mm < wx.heap.size)/\wx.cell? ⟨b5,0,none⟩=some (.int .i64 0)/\wx.cell? ⟨b5,2,none⟩=some (.int .i64 pn)/\b5 < wx.heap.size):=fun wx hx=>by
   have e3:=(hx.block _ (sz hb4) (by simp)).trans hb4
   have hb1:=HJ.o.1.box.kp (hk4.trans hx) (by simp)
   exact⟨⟨hb1.heap.1,hb1.lt⟩,by simp only[World.cell?,e3];rfl,by simp only[World.cell?,e3];rfl,(sz e3)⟩
  have Hb4:Hid (_/\_):=⟨hb4,hk4⟩
  obtain⟨tg,htgE⟩:∃ tg:Nat,tagA m.D (m.s.top 1).n=(tg:Int):=⟨(tagA m.D (m.s.top 1).n).toNat,by omega⟩
  rw[htgE] at HTg
  have HE:Hid (_/\tg < 60012):=⟨htgE,by omega⟩
  clear hk4 hb4 hu hpf hpg hw4 htg0 htg1 hp1 htgE
  go_upto_region 4 with fail
  refine zan 9 (C:=fun wx=>Kp [] w4 wx) (by kernel_rfl) ?_
  refine qL 0 rfl ?_
  apply xI
  (intro wx hwx;go_simp <;> rfl)
  refine qL 1 rfl ?_
  apply xI
  (intro wx hwx;go_simp <;> rfl)
  refine qL 2 rfl ?_
  apply xI
  (intro wx hwx;go_simp <;> rfl)
  refine qL 3 rfl ?_
  apply xI
  (intro wx hwx;obtain⟨⟨x0,x1⟩,y0,y1,y2⟩:=HF.o wx hwx;go_simp <;> rfl)
  refine qL 4 rfl ?_
  apply xI
  (intro wx hwx;go_simp <;> rfl)
  refine qL 5 rfl ?_
  apply xI
  (intro wx hwx;go_simp <;> rfl)
  refine qL 6 rfl ?_
  apply xI
  (intro wx hwx;obtain⟨⟨x0,x1⟩,y0,y1,y2⟩:=HF.o wx hwx;go_simp <;> rfl)
  refine oL 7 (Kp.refl [] w4).drew rfl (fun K hK=>?_)
  go_simp
  refine cM (HTg.o _ (Kp.refl [] w4).drew) ?_
  rintro e5 w5 ⟨rfl,hw5⟩
  refine hK _ _ ?_
  clear hK K
  refine oL 8 hw5 rfl (fun K hK=>?_)
  go_simp
  refine hK _ _ ?_
  clear hK K
  obtain⟨-,y0,-,y2⟩:=HF.o _ hw5
  have hb5:=(hw5.block _ (sz Hb4.o.1) (by simp)).trans Hb4.o.1
  have z0:w5.frozen? ⟨b5,0,none⟩=false:=by simp only[World.frozen?,hb5];rfl
  have Hb6:Hid ((w5.setCell ⟨b5,0,none⟩ (.int .i64 (tg:Int))).heap[b5]? = some (.cells #[.int .i64 (tg:Int),.bool pp,.int .i64 pn,.bool ap,.int .i64 an,.int .i64 0,.int .i64 0,.int .i64 0,.int .i64 0] 69)):=zaq hb5 0 _
  have Hk6:Hid (Kp [] w (w5.setCell ⟨b5,0,none⟩ (.int .i64 (tg:Int)))):=(Hb4.o.2.trans hw5).then (Kp.setCell (X:=[b5]) w5 ⟨b5,0,none⟩ (by simp) _) (fun y hy=>Or.inr (by rw[List.mem_singleton.1 hy];exact Hsz.o))
  have Ho6:Hid (Off X (w5.setCell ⟨b5,0,none⟩ (.int .i64 (tg:Int))) g b5):=⟨(sz Hb6.o),Ho3.o.2⟩
  refine oL 9 hw5 rfl (fun K hK=>?_)
  go_simp
  refine hK _ _ ?_
  clear hK K hw5 y0 y2 hb5 z0
  refine zas (by kernel_rfl) (by kernel_rfl) ?_
  go_simp
  generalize w5.setCell _ _=w6 at *
  have r0:w6.cell? ⟨b5,0,none⟩=some (.int .i64 tg):=by simp only[World.cell?,Hb6.o];rfl
  have r1:w6.cell? ⟨b5,1,none⟩=some (.bool pp):=by simp only[World.cell?,Hb6.o];rfl
  have r2:w6.cell? ⟨b5,2,none⟩=some (.int .i64 pn):=by simp only[World.cell?,Hb6.o];rfl
  have r3:w6.cell? ⟨b5,3,none⟩=some (.bool ap):=by simp only[World.cell?,Hb6.o];rfl
  have r4:w6.cell? ⟨b5,4,none⟩=some (.int .i64 an):=by simp only[World.cell?,Hb6.o];rfl
  have r5:w6.cell? ⟨b5,5,none⟩=some (.int .i64 0):=by simp only[World.cell?,Hb6.o];rfl
  have r6:w6.cell? ⟨b5,6,none⟩=some (.int .i64 0):=by simp only[World.cell?,Hb6.o];rfl
  have r7:w6.cell? ⟨b5,7,none⟩=some (.int .i64 0):=by simp only[World.cell?,Hb6.o];rfl
  have r8:w6.cell? ⟨b5,8,none⟩=some (.int .i64 0):=by simp only[World.cell?,Hb6.o];rfl
  have r9:b5 < w6.heap.size:=(sz Hb6.o)
  by_cases hbig:60000<=tg
  ·have hbigI:(60000:Int)<=(tg:Int):=by omega
   obtain⟨k,hkE⟩:∃ k,tg=60000+k:=⟨tg - 60000,by omega⟩
   have HC:Hid _:=HCB.o w6 Hk6.o k (by have:=HE.o.2;omega) Ht.o
   rw[show(if 0 < lenA m.D (m.s.top 1).n then {m with kind:=4} else AM.act (room X.cells) X.cd m (baseA m.D m.out k (m.s.top 0)) 2 (fun m v=>if tail then m.giveS v else {m with s:=(m.s.drop 2).put v,kind:=0}))=M from by
    rw[<-HM.o]
    unfold AM.call
    rw[if_pos Ht.o,HE.o.1,if_pos hbigI,show((tg:Int) - 60000).toNat=k by omega]] at HC
   rw[<-hkE] at HC
   clear hkE
   go_wp2_with fail
   refine cM HC.o ?_
   intro e w10 q
   have q2:=q.from (Mv.zk Hk6.o)
   clear q
   cases q2 with
   | mk w10 g10 R10 hJ10 hm10=>
    have Q:Hid (zD X w g M (.returned (.int .i64 M.kind)) w10):=.mk w10 g10 R10 hJ10 hm10
    clear hJ10 hm10
    generalize M.kind=kd at *
    go_wp2_with fail
    exact bR (by simp[results,Tryz.results53,go_sem]) Q.o
  ·have hbigI:¬ ((60000:Int)<=(tg:Int)):=by omega
   have HM2:Hid ((if tail then {m with s:=m.s.leave.enter tg (m.s.top 1) (m.s.top 0),kind:=0} else if m.s.cA.length=500 then {m with kind:=3} else {m with s:=(m.s.drop 2).enter tg (m.s.top 1) (m.s.top 0),kind:=0} : AM)=M):=by
    unfold Hid
    rw[<-HM.o]
    unfold AM.call
    rw[if_pos Ht.o,HE.o.1,if_neg hbigI]
   have h500:=HJ.o.1.len.1
   rw[HJ.o.1.clen] at h500
   have H500:=zh h500
   clear h500 hbig
   cases tail with
   | true=>
    rw[if_pos rfl] at HM2
    have HL:Hid _:=zgu (HJ.o.1.kp Hk6.o) HX.o.2.2.2.2.2.1 HY.o.1 HY.o.2.1 HY.o.2.2
    clear r1 r2 r3 r4 r5 r6 r7 r8
    go_wp2_with fail
    refine cM HL.o ?_
    rintro e w7 ⟨rfl,g7,hJ7,hm7⟩
    have hlen:m.s.leave.cA.length+1<=500:=by
     have h1:=zfd m.s HX.o.2.2.2.2.2.1
     have h2:=H500.o
     omega
    clear r0 r9
    obtain⟨-,hkb⟩:=Ho6.o.mv hm7
    have Hb7:Hid _:=hkb.trans Hb6.o
    have r0:w7.cell? ⟨b5,0,none⟩=some (.int .i64 tg):=by simp only[World.cell?,Hb7.o];rfl
    have r1:w7.cell? ⟨b5,1,none⟩=some (.bool pp):=by simp only[World.cell?,Hb7.o];rfl
    have r2:w7.cell? ⟨b5,2,none⟩=some (.int .i64 pn):=by simp only[World.cell?,Hb7.o];rfl
    have r3:w7.cell? ⟨b5,3,none⟩=some (.bool ap):=by simp only[World.cell?,Hb7.o];rfl
    have r4:w7.cell? ⟨b5,4,none⟩=some (.int .i64 an):=by simp only[World.cell?,Hb7.o];rfl
    have r5:w7.cell? ⟨b5,5,none⟩=some (.int .i64 0):=by simp only[World.cell?,Hb7.o];rfl
    have r6:w7.cell? ⟨b5,6,none⟩=some (.int .i64 0):=by simp only[World.cell?,Hb7.o];rfl
    have r7:w7.cell? ⟨b5,7,none⟩=some (.int .i64 0):=by simp only[World.cell?,Hb7.o];rfl
    have r8:w7.cell? ⟨b5,8,none⟩=some (.int .i64 0):=by simp only[World.cell?,Hb7.o];rfl
    have r9:b5 < w7.heap.size:=(sz Hb7.o)
    have HN:Hid _:=zg2 hJ7 (tg:Int) ⟨pp,pn⟩ (m.s.top 1) ⟨ap,an⟩ (m.s.top 0) 0 0 0 0 HX.o.1 HX.o.2.1 HX.o.2.2.1 HX.o.2.2.2.1 hlen
    simp only at HN
    have HV:Hid (_/\_):=⟨(Mv.zk Hk6.o).trans hm7,HJ.o.2⟩
    clear hkb hJ7 hm7 hlen
    go_wp2_with fail
    refine cM HN.o ?_
    rintro e w8 ⟨rfl,g8,hJ8,hm8⟩
    have Q:Hid (zD X w g M (.returned (.int .i64 0)) w8):=by
     unfold Hid
     rw[<-HM2.o]
     refine zD.of 0 rfl (g':=g8) (R':=R) ?_ (HV.o.1.trans hm8)
     have h7:=hJ8
     rw[<-AM.k0_s m HV.o.2 (m.s.leave.enter tg (m.s.top 1) (m.s.top 0))] at h7
     exact h7
    clear hJ8 hm8 r0 r1 r2 r3 r4 r5 r6 r7 r8 r9
    go_wp2_with fail
    exact bR (by simp[results,Tryz.results53,go_sem]) Q.o
   | false=>
    rw[if_neg Bool.false_ne_true] at HM2
    obtain⟨qc,cc,hvc,-⟩:=zah HJ.o.1.oc
    have c30:w6.cell? ⟨X.mm,30,none⟩=some (.slice qc m.s.cA.length cc):=by
     rw[<-HJ.o.1.clen,<-hvc]
     exact(HJ.o.1.kp Hk6.o).box.rows.1
    have c31:=(HJ.o.1.kp Hk6.o).box.lt
    clear hvc
    by_cases h5:m.s.cA.length=500
    ·rw[if_pos h5] at HM2
     have Q:Hid (zD X w g M (.returned (.int .i64 3)) w6):=by
      unfold Hid
      rw[<-HM2.o]
      refine zD.of 3 rfl (g':=g) (R':=R) ?_ (Mv.zk Hk6.o)
      have h7:=HJ.o.1.kp Hk6.o
      rw[<-AM.k0_eq HJ.o.2] at h7
      exact h7
     rw[h5] at c30
     clear r1 r2 r3 r4 r5 r6 r7 r8 h5
     go_wp2_with fail
     exact bR (by simp[results,Tryz.results53,go_sem]) Q.o
    ·rw[if_neg h5] at HM2
     have h5I:((m.s.cA.length:Int) == 500)=false:=by simp;omega
     have HD:Hid _:=zba (HJ.o.1.kp Hk6.o) 2 HX.o.2.2.2.2.2.2
     have hlen:(m.s.drop 2).cA.length+1<=500:=by
      have h2:=H500.o
      show m.s.cA.length+1<=500
      omega
     clear r1 r2 r3 r4 r5 r6 r7 r8
     have Hlen:=zh hlen
     clear hlen h5
     go_wp2_with fail
     refine cM HD.o ?_
     rintro e w7 ⟨rfl,g7,hp7⟩
     have hJ7:=hp7.j
     have hm7:=hp7.mv
     have hlen:=Hlen.o
     clear hp7 r0 r9 c30 c31 h5I
     obtain⟨-,hkb⟩:=Ho6.o.mv hm7
     have Hb7:Hid _:=hkb.trans Hb6.o
     have r0:w7.cell? ⟨b5,0,none⟩=some (.int .i64 tg):=by simp only[World.cell?,Hb7.o];rfl
     have r1:w7.cell? ⟨b5,1,none⟩=some (.bool pp):=by simp only[World.cell?,Hb7.o];rfl
     have r2:w7.cell? ⟨b5,2,none⟩=some (.int .i64 pn):=by simp only[World.cell?,Hb7.o];rfl
     have r3:w7.cell? ⟨b5,3,none⟩=some (.bool ap):=by simp only[World.cell?,Hb7.o];rfl
     have r4:w7.cell? ⟨b5,4,none⟩=some (.int .i64 an):=by simp only[World.cell?,Hb7.o];rfl
     have r5:w7.cell? ⟨b5,5,none⟩=some (.int .i64 0):=by simp only[World.cell?,Hb7.o];rfl
     have r6:w7.cell? ⟨b5,6,none⟩=some (.int .i64 0):=by simp only[World.cell?,Hb7.o];rfl
     have r7:w7.cell? ⟨b5,7,none⟩=some (.int .i64 0):=by simp only[World.cell?,Hb7.o];rfl
     have r8:w7.cell? ⟨b5,8,none⟩=some (.int .i64 0):=by simp only[World.cell?,Hb7.o];rfl
     have r9:b5 < w7.heap.size:=(sz Hb7.o)
     have HN:Hid _:=zg2 hJ7 (tg:Int) ⟨pp,pn⟩ (m.s.top 1) ⟨ap,an⟩ (m.s.top 0) 0 0 0 0 HX.o.1 HX.o.2.1 HX.o.2.2.1 HX.o.2.2.2.1 hlen
     simp only at HN
     have HV:Hid (_/\_):=⟨(Mv.zk Hk6.o).trans hm7,HJ.o.2⟩
     clear hkb hJ7 hm7 hlen
     go_wp2_with fail
     refine cM HN.o ?_
     rintro e w8 ⟨rfl,g8,hJ8,hm8⟩
     have Q:Hid (zD X w g M (.returned (.int .i64 0)) w8):=by
      unfold Hid
      rw[<-HM2.o]
      refine zD.of 0 rfl (g':=g8) (R':=R) ?_ (HV.o.1.trans hm8)
      have h7:=hJ8
      rw[<-AM.k0_s m HV.o.2 ((m.s.drop 2).enter tg (m.s.top 1) (m.s.top 0))] at h7
      exact h7
     clear hJ8 hm8 r0 r1 r2 r3 r4 r5 r6 r7 r8 r9
     go_wp2_with fail
     exact bR (by simp[results,Tryz.results53,go_sem]) Q.o
end
end Go.Proofs.YtkcmachfagcnaaaGreatDoor
