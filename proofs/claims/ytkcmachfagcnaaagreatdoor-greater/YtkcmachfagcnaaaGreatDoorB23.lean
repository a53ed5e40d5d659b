/- Part of Greater. -/
import Derived.Test.YtkcmachfagcnaaaGreatDoorB22
set_option maxHeartbeats 8000000
set_option maxRecDepth 100000
namespace Go.Proofs.YtkcmachfagcnaaaGreatDoor
open Go.RowKit Go.Deep Go.IntWalk
open C12 (Cd Fn In zT)
def exnV:Array Value:=#[.string ⟨#[77,97,116,99,104]⟩,.string ⟨#[66,105,110,100]⟩,.string ⟨#[79,118,101,114,102,108,111,119]⟩,.string ⟨#[68,105,118]⟩,.string ⟨#[66,111,117,110,100,115]⟩,.string ⟨#[83,105,122,101]⟩]
structure ExIn(w:World):Prop where
 is:∃ t fr,w.heap[5]? = some (.cells exnV t fr)
theorem ExIn.kp{w w':World}(h:ExIn w)(hk:Kp [] w w'):ExIn w':=by
 obtain⟨t,fr,h⟩:=h.is
 exact⟨t,fr,(hk.block 5 (sz h) (by simp)).trans h⟩
theorem ExIn.below{w w':World}(h:ExIn w)(hk:Below w.heap.size w w'):ExIn w':=h.kp (Kp.zB hk)
theorem ExIn.cells{w:World}(h:ExIn w):(w.cell? ⟨5,0,none⟩=some (.string ⟨#[77,97,116,99,104]⟩)/\w.cell? ⟨5,1,none⟩=some (.string ⟨#[66,105,110,100]⟩)/\w.cell? ⟨5,2,none⟩=some (.string ⟨#[79,118,101,114,102,108,111,119]⟩)/\w.cell? ⟨5,3,none⟩=some (.string ⟨#[68,105,118]⟩)/\w.cell? ⟨5,4,none⟩=some (.string ⟨#[66,111,117,110,100,115]⟩)/\w.cell? ⟨5,5,none⟩=some (.string ⟨#[83,105,122,101]⟩))/\5 < w.heap.size:=by
 obtain⟨t,fr,h⟩:=h.is
 refine⟨?_,(sz h)⟩
 refine⟨?_,?_,?_,?_,?_,?_⟩ <;> simp[World.cell?,h,exnV]
theorem za0(w:World)(n:Int):Calls Tryz.prog 85 #[.int .i64 n] w fun e w'=>e=.returned (.agg #[.bool false,.int .i64 n])/\Kp [] w w':=by
 have Q:Hid (Kp [] w (w.alloc (.cells #[.bool false,.int .i64 n] 67))):=kA
 go_enter Tryz.func85,Tryz.ntmps85
 go_wp2_with fail
 exact bR (by simp[results,Tryz.results85,go_sem]) ⟨rfl,Q.o⟩
theorem zb2(w:World)(b:Bool):Calls Tryz.prog 89 #[.bool b] w fun e w'=>e=.returned (.agg #[.bool false,.int .i64 (if b then 1 else 0)])/\Kp [] w w':=by
 have Hn:Hid (∀ n,Calls Tryz.prog 85 #[.int .i64 n] (w.alloc (.cells #[.bool false,.int .i64 0] 67)) fun e w'=>e=.returned (.agg #[.bool false,.int .i64 n])/\Kp [] (w.alloc (.cells #[.bool false,.int .i64 0] 67)) w'):=fun n=>za0 _ n
 have Hk:Hid (Kp [] w (w.alloc (.cells #[.bool false,.int .i64 0] 67))):=kA
 have hbx:(w.alloc (.cells #[.bool false,.int .i64 0] 67)).heap[w.heap.size]? = some (.cells #[.bool false,.int .i64 0] 67):=zab w _
 have Hbx:=zh hbx
 clear hbx
 cases b
 all_goals
  go_enter Tryz.func89,Tryz.ntmps89
  go_wp2_with fail
  refine cM (Hn.o _) ?_
  rintro e w2 ⟨rfl,hk2⟩
  have hb2:=(hk2.block _ (sz Hbx.o) (by simp)).trans Hbx.o
  have c0:w2.cell? ⟨w.heap.size,0,none⟩=some (.bool false):=by simp[World.cell?,hb2]
  have c1:w2.cell? ⟨w.heap.size,1,none⟩=some (.int .i64 0):=by simp[World.cell?,hb2]
  have z0:w2.frozen? ⟨w.heap.size,0,none⟩=false:=by simp[World.frozen?,hb2]
  have z1:w2.frozen? ⟨w.heap.size,1,none⟩=false:=by simp[World.frozen?,hb2]
  have cl:=(sz hb2)
  have Q:Hid (∀ n,Kp [] w ((w2.setCell ⟨w.heap.size,0,none⟩ (.bool false)).setCell ⟨w.heap.size,1,none⟩ (.int .i64 n))):=fun n=>((Hk.o.trans hk2).then (Kp.setCell (X:=[w.heap.size]) w2 _ (by simp) _) (by simp)).then (Kp.setCell (X:=[w.heap.size]) _ _ (by simp) _) (by simp)
  clear hk2 hb2
  go_wp2_with fail
  exact bR (by simp[results,Tryz.results89,go_sem,c0,c1]) ⟨rfl,Q.o _⟩
theorem zmt(w:World)(hE:ExIn w):Calls Tryz.prog 100 #[] w fun e w'=>e=.returned (.agg exnV)/\Kp [] w w':=by
 obtain⟨⟨c0,c1,c2,c3,c4,c5⟩,cl⟩:=(hE.kp (Kp.alloc [] w (.cells #[.string {data:=#[]},.string {data:=#[]},.string {data:=#[]},.string {data:=#[]},.string {data:=#[]},.string {data:=#[]}] 201))).cells
 have Q:Hid (Kp [] w (w.alloc (.cells exnV 201))):=kA
 clear hE
 unfold exnV at *
 go_enter Tryz.func100,Tryz.ntmps100
 go_wp2_with fail
 exact bR (by simp[results,Tryz.results100,go_sem]) ⟨rfl,Q.o⟩
section
variable{X:Fx}{w:World}{g:Pg}{m:AM}{R:Int->Int->Prop}
theorem ztz(h:J X w g m R):∀ wx,Kp [] w wx->Calls Tryz.prog 18 #[.pointer (some ⟨X.mm,0,none⟩)] wx fun e w'=>e=.returned (.bool (decide (m.kind=0/\m.s.cA.length≠0)))/\Kp [] w w':=by
 intro wx hk
 have hbx:=h.box.kp hk (by simp)
 obtain⟨q,cap,hv,_⟩:=zah h.oc
 have c0:wx.cell? ⟨X.mm,30,none⟩=some (.slice q m.s.cA.length cap):=by rw[<-h.clen,<-hv];exact hbx.rows.1
 have c1:wx.cell? ⟨X.mm,34,none⟩=some (.int .i64 m.kind):=hbx.tell.1
 have cl:=hbx.lt
 have Q:=zh hk
 clear h hbx hv hk
 by_cases hkd:m.kind=0
 ·by_cases hn:m.s.cA.length=0
  ·rw[show decide (m.kind=0/\m.s.cA.length≠0)=false by simp[hn]]
   rw[hkd] at c1
   rw[hn] at c0
   clear hkd hn
   go_enter Tryz.func18,Tryz.ntmps18
   go_wp2_with fail
   exact bR (by simp[results,Tryz.results18,go_sem]) ⟨rfl,Q.o⟩
  ·rw[show decide (m.kind=0/\m.s.cA.length≠0)=true by simp[hkd];intro e;rw[e] at hn;exact hn rfl]
   rw[hkd] at c1
   have hn':(0:Int) < (m.s.cA.length:Int):=by omega
   clear hkd hn
   go_enter Tryz.func18,Tryz.ntmps18
   go_wp2_with fail
   exact bodyPost_ret (by simp[results,Tryz.results18,go_sem];omega) rfl ⟨rfl,Q.o⟩
 ·rw[show decide (m.kind=0/\m.s.cA.length≠0)=false by simp[hkd]]
  have hk':(m.kind == 0)=false:=by simpa using hkd
  generalize m.kind=kd at *
  clear hkd
  go_enter Tryz.func18,Tryz.ntmps18
  go_wp2_with fail
  exact bR (by simp[results,Tryz.results18,go_sem]) ⟨rfl,Q.o⟩
def exnB(D:Doc)(v:Cl):Bool:=if v.p then thK D v 4 else decide (-6<=v.n/\v.n<=-1)
def raisB(D:Doc)(v:Cl):Bool:=thK D v 0 && exnB D (getA D v.n 0)
theorem J.slotI(h:J X w g m R)(hn:0 < m.s.cA.length)(i:Nat):zI R (g.s.slot i) (m.s.slot i)/\wfC (g.s.slot i):=by
 have e:=(h.cur hn).sb
 have es:=h.slen
 unfold St.slot
 rw[e]
 by_cases c:m.s.cur.sb+i < m.s.sA.length
 ·rw[gE (by omega),gE (by omega)]
  exact⟨h.st.sl.at_ _ (by omega) (by omega),h.swf _ (List.getElem_mem _)⟩
 ·rw[List.getElem?_eq_none (by omega),List.getElem?_eq_none (by omega)]
  exact⟨⟨rfl,fun _=>rfl,fun e=>by cases e⟩,by unfold wfC;exact zhu (by show(-9223372036854775808:Int)<=0/\(0:Int)<=9223372036854775807;omega)⟩
theorem zl0(h:J X w g m R)(hn:0 < m.s.cA.length)(i:Nat)(hi:i<=65535)(hsb:m.s.cur.sb<=1000000000):∀ wx,Kp [] w wx->Calls Tryz.prog 50 #[.pointer (some ⟨X.mm,0,none⟩),.int .i64 i] wx fun e w'=>e=.returned (.agg #[.bool (g.s.slot i).p,.int .i64 (g.s.slot i).n])/\Kp [] w w':=by
 intro w0 hk0
 have hk1:Kp [] w (w0.alloc (.cells #[.bool false,.int .i64 0] 67)):=hk0.trans kA
 have hcl:=h.clen
 have hsbe:=(h.cur hn).sb
 rw[<-hsbe] at hsb
 have hl:=h.len.2.1
 obtain⟨gc,cap,hvc,hcur⟩:=h.curAt (by omega)
 have HI:Hid (∀ wx,Kp [] (w0.alloc (.cells #[.bool false,.int .i64 0] 67)) wx->_):=zbw (h.kp hk1) (by omega) (fun wx hx=>(hcur wx (hk1.trans hx)).1)
 obtain⟨q,cs,hvs,hcs,hq,hz⟩:=zah h.os
 have hbx:(w0.alloc (.cells #[.bool false,.int .i64 0] 67)).heap[w0.heap.size]? = some (.cells #[.bool false,.int .i64 0] 67):=zab w0 _
 have HF:Hid (∀ wx,Kp [] (w0.alloc (.cells #[.bool false,.int .i64 0] 67)) wx->(wx.cell? ⟨X.mm,31,none⟩=some (.slice q g.s.sA.length cs)/\X.mm < wx.heap.size)/\(wx.cell? ⟨gc,(g.s.cA.length - 1) * 9+6,none⟩=some (.int .i64 g.s.cur.sb)/\gc < wx.heap.size)/\(wx.cell? ⟨w0.heap.size,0,none⟩=some (.bool false)/\wx.cell? ⟨w0.heap.size,1,none⟩=some (.int .i64 0)/\w0.heap.size < wx.heap.size/\∀ o,wx.frozen? ⟨w0.heap.size,o,none⟩=false)):=fun wx hx=>by
  have hb1:=(h.box.kp (hk1.trans hx) (by simp)).rows
  obtain⟨_,h2,h3⟩:=hcur wx (hk1.trans hx)
  have e1:=(hx.block _ (sz hbx) (by simp)).trans hbx
  exact⟨⟨by rw[<-hvs];exact hb1.2.1,hb1.2.2.2.2⟩,⟨h2 6 (by omega),h3⟩,by simp only[World.cell?,e1];rfl,by simp only[World.cell?,e1];rfl,(sz e1),fun o=>by simp[World.frozen?,e1]⟩
 have hw:IntKind.i64.wrap ((i:Int)+(g.s.cur.sb:Int))=((g.s.cur.sb+i:Nat):Int):=by rw[IntKind.wrap_i64];omega
 have HW:Hid (∀ wx a b,Kp [] (w0.alloc (.cells #[.bool false,.int .i64 0] 67)) wx->Kp [] w ((wx.setCell ⟨w0.heap.size,0,none⟩ a).setCell ⟨w0.heap.size,1,none⟩ b)):=fun wx a b hx=>((hk0.trans ((Kp.alloc [] w0 (.cells #[.bool false,.int .i64 0] 67)).trans hx)).then (Kp.setCell (X:=[w0.heap.size]) wx _ (by simp) a) (fun y hy=>Or.inr (by rw[List.mem_singleton.1 hy];exact hk0.size))).then (Kp.setCell (X:=[w0.heap.size]) _ _ (by simp) b) (fun y hy=>Or.inr (by rw[List.mem_singleton.1 hy];exact hk0.size))
 have Hk1:=zh hk1
 by_cases c:g.s.cur.sb+i < g.s.sA.length
 ·rcases zbg h.os with⟨e1,e2⟩ | ⟨gs,cap2,cur,e1,hb,hh,hc,_,hs,hx⟩
  ·omega
  ·rw[hvs] at e1
   cases e1
   have es:g.s.slot i=g.s.sA[g.s.cur.sb+i]'c:=by
    unfold St.slot
    rw[gE c]
    rfl
   have x0:=hx ((g.s.cur.sb+i) * 2+0) (by omega)
   have x1:=hx ((g.s.cur.sb+i) * 2+1) (by omega)
   rw[zbh g.s.sA _ c 0 (by omega)] at x0
   rw[zbh g.s.sA _ c 1 (by omega)] at x1
   have HS:Hid (∀ wx,Kp [] (w0.alloc (.cells #[.bool false,.int .i64 0] 67)) wx->wx.cell? ⟨gs,(g.s.cur.sb+i) * 2,none⟩=some (.bool (g.s.slot i).p)/\wx.cell? ⟨gs,(g.s.cur.sb+i) * 2+1,none⟩=some (.int .i64 (g.s.slot i).n)/\gs < wx.heap.size):=fun wx hx=>by
    have hh1:=((hk1.trans hx).block gs (sz hh) (by simp)).trans hh
    rw[es]
    refine⟨?_,?_,(sz hh1)⟩
    ·simp only[World.cell?,hh1]
     exact x0
    ·simp only[World.cell?,hh1]
     exact x1
   have hlt:((g.s.cur.sb+i:Nat):Int) < (g.s.sA.length:Int):=by omega
   clear h hcur hvc hvs hq hz hbx hk0 hk1 hcl hsbe hl hsb hb hh hs hx x0 x1 es hc hcs
   generalize g.s.slot i=sv at *
   obtain⟨sp,sn⟩:=sv
   simp only at HS ⊢
   generalize g.s.cur.sb+i=si at *
   generalize g.s.cur.sb=sb at *
   generalize (g.s.cA.length - 1) * 9=co at *
   generalize g.s.sA.length=sl at *
   go_enter Tryz.func50,Tryz.ntmps50
   go_wp2_with fail
   refine cM (HI.o _ kr) ?_
   rintro e w2 ⟨rfl,hk2⟩
   obtain⟨⟨f0,f1⟩,⟨f2,f3⟩,f4,f5,f6,fz⟩:=HF.o w2 hk2
   obtain⟨s0,s1,s2⟩:=HS.o w2 hk2
   have z0:=fz 0
   have z1:=fz 1
   have Q:Hid (Kp [] w ((w2.setCell ⟨w0.heap.size,0,none⟩ (.bool sp)).setCell ⟨w0.heap.size,1,none⟩ (.int .i64 sn))):=HW.o _ _ _ hk2
   clear hk2 fz
   go_wp2_with fail
   exact bR (by simp[results,Tryz.results50,go_sem,f4,f5]) ⟨rfl,Q.o⟩
 ·have es:g.s.slot i=default:=by
   unfold St.slot
   rw[List.getElem?_eq_none (by omega)]
   rfl
  have hlt:¬ (((g.s.cur.sb+i:Nat):Int) < (g.s.sA.length:Int)):=by omega
  rw[es]
  clear h hcur hvc hvs hq hz hbx hk0 hk1 hcl hsbe hl hsb es hcs
  generalize g.s.cur.sb+i=si at *
  generalize g.s.cur.sb=sb at *
  generalize (g.s.cA.length - 1) * 9=co at *
  generalize g.s.sA.length=sl at *
  show Calls Tryz.prog 50 _ w0 fun e w'=>e=.returned (.agg #[.bool false,.int .i64 0])/\Kp [] w w'
  go_enter Tryz.func50,Tryz.ntmps50
  go_wp2_with fail
  refine cM (HI.o _ kr) ?_
  rintro e w2 ⟨rfl,hk2⟩
  obtain⟨⟨f0,f1⟩,⟨f2,f3⟩,f4,f5,f6,fz⟩:=HF.o w2 hk2
  have z0:=fz 0
  have z1:=fz 1
  have Q:Hid (Kp [] w ((w2.setCell ⟨w0.heap.size,0,none⟩ (.bool false)).setCell ⟨w0.heap.size,1,none⟩ (.int .i64 0))):=HW.o _ _ _ hk2
  clear hk2 fz
  go_wp2_with fail
  exact bR (by simp[results,Tryz.results50,go_sem,f4,f5]) ⟨rfl,Q.o⟩
theorem zqm(h:J X w g m R)(hE:ExIn X.wc)(a b:Cl)(hab:zI R a b):∀ wx,Kp [] w wx->Calls Tryz.prog 81 #[.pointer (some ⟨X.mm,0,none⟩),.agg #[.bool a.p,.int .i64 a.n]] wx fun e w'=>e=.returned (.bool (exnB m.D b))/\Kp [] w w':=by
 intro w0 hk0
 obtain⟨ap,an⟩:=a
 simp only
 have hk1:Kp [] w (w0.alloc (.cells #[.bool ap,.int .i64 an] 67)):=hk0.trans kA
 have hJ1:=h.kp hk1
 have hbx:(w0.alloc (.cells #[.bool ap,.int .i64 an] 67)).heap[w0.heap.size]? = some (.cells #[.bool ap,.int .i64 an] 67):=zab w0 _
 have HF:Hid (∀ wx,Kp [] (w0.alloc (.cells #[.bool ap,.int .i64 an] 67)) wx->wx.cell? ⟨w0.heap.size,0,none⟩=some (.bool ap)/\wx.cell? ⟨w0.heap.size,1,none⟩=some (.int .i64 an)/\w0.heap.size < wx.heap.size):=fun wx hx=>by
  have e1:=(hx.block _ (sz hbx) (by simp)).trans hbx
  exact⟨by simp only[World.cell?,e1];rfl,by simp only[World.cell?,e1];rfl,(sz e1)⟩
 have HI:Hid (∀ wx,Kp [] (w0.alloc (.cells #[.bool ap,.int .i64 an] 67)) wx->_):=zbl hJ1 ⟨ap,an⟩ b hab 4
 have HX:Hid (∀ wx,Kp [] (w0.alloc (.cells #[.bool ap,.int .i64 an] 67)) wx->Calls Tryz.prog 100 #[] wx fun e w'=>e=.returned (.agg exnV)/\Kp [] (w0.alloc (.cells #[.bool ap,.int .i64 an] 67)) w'):=fun wx hx=>cM (zmt wx ((hE.below hJ1.bl).kp hx)) (fun e w' q=>⟨q.1,hx.trans q.2⟩)
 have Hk1:=zh hk1
 have HK0:Hid (Kp [] (w0.alloc (.cells #[.bool ap,.int .i64 an] 67)) (w0.alloc (.cells #[.bool ap,.int .i64 an] 67)).drew):=kr.drew
 cases ap with
 | true=>
  have e:exnB m.D b=thK m.D b 4:=by unfold exnB;rw[<-hab.1];rfl
  rw[e]
  clear h hJ1 hab hk0 hk1 hbx e hE
  obtain⟨f0,f1,f2⟩:=HF.o _ kr
  go_enter Tryz.func81,Tryz.ntmps81
  go_wp2_with fail
  refine cM (HI.o _ kr) ?_
  rintro e w2 ⟨rfl,hk2⟩
  have Q:=zh (Hk1.o.trans hk2)
  clear hk2 f0 f1 f2
  go_wp2_with fail
  exact bR (by simp[results,Tryz.results81,go_sem]) ⟨rfl,Q.o⟩
 | false=>
  have e:exnB m.D b=decide (-6<=an/\an<=-1):=by
   unfold exnB
   rw[<-hab.1,show b.n=an from(hab.2.1 rfl).symm]
   rfl
  rw[e]
  clear h hJ1 hab hk0 hk1 hbx e hE
  obtain⟨f0,f1,f2⟩:=HF.o _ kr
  have hw6:IntKind.i64.wrap (-6)=-6:=by rw[IntKind.wrap_i64];omega
  by_cases c1:-6<=an
  ·have hc:decide (-6<=an/\an<=-1)=decide (an<=-1):=by simp[c1]
   rw[hc]
   clear hc
   go_enter Tryz.func81,Tryz.ntmps81
   go_upto_region 3 with fail
   generalize w0.alloc _=w1 at *
   generalize w0.heap.size=b0 at *
   clear f0 f1 f2
   refine rQ HK0.o (fun ops Hops=>?_)
   repeat
    (refine wQ ?_;apply xI;(·intro wx hwx;obtain⟨f0,f1,f2⟩:=HF.o wx hwx;go_simp <;> first | with_reducible rfl | with_reducible exact⟨rfl,rfl⟩ | exact HX.o _ hwx);try go_simp)
   refine wpQuiet_nil ?_
   clear Hops ops
   intro w9 hw9
   have Q:=zh (Hk1.o.trans hw9)
   clear hw9
   go_wp2
   exact bR (by simp[results,Tryz.results81,go_sem]) ⟨rfl,Q.o⟩
  ·have hc:decide (-6<=an/\an<=-1)=false:=by simp[c1]
   rw[hc]
   clear hc
   go_enter Tryz.func81,Tryz.ntmps81
   go_upto_region 3 with fail
   generalize w0.alloc _=w1 at *
   generalize w0.heap.size=b0 at *
   clear f0 f1 f2
   refine rQ HK0.o (fun ops Hops=>?_)
   iterate 7
    (refine wQ ?_;apply xI;(·intro wx hwx;obtain⟨f0,f1,f2⟩:=HF.o wx hwx;go_simp <;> first | with_reducible rfl | with_reducible exact⟨rfl,rfl⟩ | exact HX.o _ hwx);try go_simp)
   iterate 3
    (refine wU ?_;go_simp)
   iterate 2
    (refine wQ ?_;apply xI;(·intro wx hwx;go_simp <;> first | rfl | exact⟨rfl,rfl⟩);try go_simp)
   refine wpQuiet_nil ?_
   clear Hops ops
   intro w9 hw9
   have Q:=zh (Hk1.o.trans hw9)
   clear hw9
   go_wp2
   exact bR (by simp[results,Tryz.results81,go_sem]) ⟨rfl,Q.o⟩
end
end Go.Proofs.YtkcmachfagcnaaaGreatDoor
namespace Go.Proofs.YtkcmachfagcnaaaGreatDoor
open Go.RowKit Go.Deep Go.IntWalk
open C12 (Cd Fn In zT)
open C12 (zX)
section
variable{X:Fx}{w:World}{g:Pg}{m:AM}{R:Int->Int->Prop}
theorem zim{t u:Th}{y:Int}(hu:m.D y=some u)(hth:ThIso R t u)(i:Nat)(hi:i < t.fs.length):zI R (t.fs[i]'hi) (getA m.D y i):=by
 unfold getA
 rw[hu]
 have e:=hth.fs.len
 simp only[Option.getD_some]
 rw[gE (by omega)]
 exact hth.fs.at_ i hi (by omega)
theorem zn3(h:J X w g m R)(hE:ExIn X.wc)(a b:Cl)(hab:zI R a b)(hf:thK m.D b 0=true->0 < lenA m.D b.n):∀ wx,Kp [] w wx->Calls Tryz.prog 55 #[.pointer (some ⟨X.mm,0,none⟩),.agg #[.bool a.p,.int .i64 a.n]] wx fun e w'=>e=.returned (.bool (raisB m.D b))/\Kp [] w w':=by
 intro w0 hk0
 cases hb:thK m.D b 0 with
 | false=>
  have e:raisB m.D b=false:=by unfold raisB;rw[hb];rfl
  rw[e]
  obtain⟨ap,an⟩:=a
  simp only
  have hk1:Kp [] w (w0.alloc (.cells #[.bool ap,.int .i64 an] 67)):=hk0.trans kA
  have hbx:(w0.alloc (.cells #[.bool ap,.int .i64 an] 67)).heap[w0.heap.size]? = some (.cells #[.bool ap,.int .i64 an] 67):=zab w0 _
  have HF:Hid (∀ wx,Kp [] (w0.alloc (.cells #[.bool ap,.int .i64 an] 67)) wx->(wx.cell? ⟨w0.heap.size,0,none⟩=some (.bool ap)/\wx.cell? ⟨w0.heap.size,1,none⟩=some (.int .i64 an)/\w0.heap.size < wx.heap.size)/\wx.cell? ⟨X.mm,2,none⟩=some (.pointer (some ⟨X.hp,0,none⟩))/\wx.cell? ⟨X.mm,0,none⟩=some (.slice X.pt X.cd.texts.length X.ct)/\X.mm < wx.heap.size):=fun wx hx=>by
   have e1:=(hx.block _ (sz hbx) (by simp)).trans hbx
   have hb1:=((h.kp hk1).box.kp hx (by simp))
   exact⟨⟨by simp only[World.cell?,e1];rfl,by simp only[World.cell?,e1];rfl,(sz e1)⟩,hb1.heap.1,hb1.code.1,hb1.lt⟩
  have HIs:Hid (∀ wx,Kp [] (w0.alloc (.cells #[.bool ap,.int .i64 an] 67)) wx->Calls Tryz.prog 75 #[.pointer (some ⟨X.mm,0,none⟩),.agg #[.bool ap,.int .i64 an],.int .i64 0] wx fun e w'=>e=.returned (.bool false)/\Kp [] (w0.alloc (.cells #[.bool ap,.int .i64 an] 67)) w'):=fun wx hx=>by
   have hz:=zbl (h.kp hk1) ⟨ap,an⟩ b hab 0 wx hx
   rw[hb] at hz
   exact hz
  have HK0:Hid (Kp [] (w0.alloc (.cells #[.bool ap,.int .i64 an] 67)) (w0.alloc (.cells #[.bool ap,.int .i64 an] 67)).drew):=kr.drew
  have HK1:=zh hk1
  clear h hab hk0 hk1 hbx e hb hE hf
  go_enter Tryz.func55,Tryz.ntmps55
  go_upto_region 1 with fail
  generalize w0.alloc _=w1 at *
  generalize w0.heap.size=b0 at *
  refine rQ HK0.o (fun ops Hops=>?_)
  iterate 4
   (refine wQ ?_;apply xI;(·intro wx hwx;obtain⟨⟨f0,f1,f2⟩,f3,f5,f4⟩:=HF.o wx hwx;go_simp <;> first | with_reducible rfl | with_reducible exact⟨rfl,rfl⟩ | exact HIs.o _ hwx);try go_simp)
  iterate 9
   (refine wU ?_;go_simp)
  iterate 2
   (refine wQ ?_;apply xI;(·intro wx hwx;go_simp <;> first | rfl | exact⟨rfl,rfl⟩);try go_simp)
  refine wpQuiet_nil ?_
  clear Hops ops
  intro w9 hw9
  have Q:=zh (HK1.o.trans hw9)
  clear hw9
  go_wp2
  exact bR (by simp[results,Tryz.results55,go_sem]) ⟨rfl,Q.o⟩
 | true=>
  obtain⟨hap,hbp,t,u,ht,hu,hth,hkd⟩:=zdo h hab hb
  obtain⟨ap,an⟩:=a
  simp only at hap ht
  subst hap
  have hlen:0 < t.fs.length:=by
   have:=hf hb
   unfold lenA at this
   rw[hu] at this
   rw[hth.fs.len]
   exact this
  have hc:=zim hu hth 0 hlen
  have e:raisB m.D b=exnB m.D (getA m.D b.n 0):=by
   unfold raisB
   rw[hb,Bool.true_and]
  rw[e]
  simp only
  have hk1:Kp [] w (w0.alloc (.cells #[.bool true,.int .i64 an] 67)):=hk0.trans kA
  have hbx:(w0.alloc (.cells #[.bool true,.int .i64 an] 67)).heap[w0.heap.size]? = some (.cells #[.bool true,.int .i64 an] 67):=zab w0 _
  have HF:Hid (∀ wx,Kp [] (w0.alloc (.cells #[.bool true,.int .i64 an] 67)) wx->(wx.cell? ⟨w0.heap.size,0,none⟩=some (.bool true)/\wx.cell? ⟨w0.heap.size,1,none⟩=some (.int .i64 an)/\w0.heap.size < wx.heap.size)/\wx.cell? ⟨X.mm,2,none⟩=some (.pointer (some ⟨X.hp,0,none⟩))/\wx.cell? ⟨X.mm,0,none⟩=some (.slice X.pt X.cd.texts.length X.ct)/\X.mm < wx.heap.size):=fun wx hx=>by
   have e1:=(hx.block _ (sz hbx) (by simp)).trans hbx
   have hb1:=((h.kp hk1).box.kp hx (by simp))
   exact⟨⟨by simp only[World.cell?,e1];rfl,by simp only[World.cell?,e1];rfl,(sz e1)⟩,hb1.heap.1,hb1.code.1,hb1.lt⟩
  have HIs:Hid (∀ wx,Kp [] (w0.alloc (.cells #[.bool true,.int .i64 an] 67)) wx->Calls Tryz.prog 75 #[.pointer (some ⟨X.mm,0,none⟩),.agg #[.bool true,.int .i64 an],.int .i64 0] wx fun e w'=>e=.returned (.bool true)/\Kp [] (w0.alloc (.cells #[.bool true,.int .i64 an] 67)) w'):=fun wx hx=>by
   have hz:=zbl (h.kp hk1) ⟨true,an⟩ b hab 0 wx hx
   rw[hb] at hz
   exact hz
  have HKd:Hid (∀ wx,Kp [] (w0.alloc (.cells #[.bool true,.int .i64 an] 67)) wx->Calls Tryz.prog 82 #[.pointer (some ⟨X.hp,0,none⟩),.int .i64 an,.int .i64 0] wx fun e w'=>e=.returned (.agg #[.bool (t.fs[0]'hlen).p,.int .i64 (t.fs[0]'hlen).n])/\Kp [] (w0.alloc (.cells #[.bool true,.int .i64 an] 67)) w'):=fun wx hx=>((h.kp hk1).pget wx hx an t ht).2.2.2 0 hlen
  have HX:Hid (∀ wx,Kp [] (w0.alloc (.cells #[.bool true,.int .i64 an] 67)) wx->_):=zqm (h.kp hk1) hE (t.fs[0]'hlen) (getA m.D b.n 0) hc
  have HK0:Hid (Kp [] (w0.alloc (.cells #[.bool true,.int .i64 an] 67)) (w0.alloc (.cells #[.bool true,.int .i64 an] 67)).drew):=kr.drew
  have HK1:=zh hk1
  clear h hab hk0 hk1 hbx e hb ht hu hth hbp hkd hf hc hE
  generalize exnB m.D (getA m.D b.n 0)=eb at *
  generalize t.fs[0]'hlen=c at *
  obtain⟨cp,cn⟩:=c
  simp only at HKd HX
  go_enter Tryz.func55,Tryz.ntmps55
  go_upto_region 1 with fail
  generalize w0.alloc _=w1 at *
  generalize w0.heap.size=b0 at *
  refine rQ HK0.o (fun ops Hops=>?_)
  repeat
   (refine wQ ?_;apply xI;(·intro wx hwx;obtain⟨⟨f0,f1,f2⟩,f3,f5,f4⟩:=HF.o wx hwx;go_simp <;> first | with_reducible rfl | with_reducible exact⟨rfl,rfl⟩ | with_reducible exact HIs.o _ hwx | with_reducible exact HKd.o _ hwx | with_reducible exact HX.o _ hwx | exact HIs.o _ hwx | exact HKd.o _ hwx | exact HX.o _ hwx);try go_simp)
  refine wpQuiet_nil ?_
  clear Hops ops
  intro w9 hw9
  have Q:=zh (HK1.o.trans hw9)
  clear hw9
  go_wp2
  exact bR (by simp[results,Tryz.results55,go_sem]) ⟨rfl,Q.o⟩
theorem za9(p:Bool)(n:Int)(w:World):(Instr.field 67 (.agg #[.bool p,.int .i64 n]) 1).run Tryz.prog w=.ok (.int .i64 n) w:=by kernel_rfl
theorem ztv(w:World):(Instr.index 201 (.agg exnV) (.int .i64 0)).run Tryz.prog w=.ok (.string ⟨#[77,97,116,99,104]⟩) w:=by kernel_rfl
theorem ztu(w:World):(Instr.index 201 (.agg exnV) (.int .i64 1)).run Tryz.prog w=.ok (.string ⟨#[66,105,110,100]⟩) w:=by kernel_rfl
theorem ztt(w:World):(Instr.index 201 (.agg exnV) (.int .i64 2)).run Tryz.prog w=.ok (.string ⟨#[79,118,101,114,102,108,111,119]⟩) w:=by kernel_rfl
theorem zts(w:World):(Instr.index 201 (.agg exnV) (.int .i64 3)).run Tryz.prog w=.ok (.string ⟨#[68,105,118]⟩) w:=by kernel_rfl
theorem ztr(w:World):(Instr.index 201 (.agg exnV) (.int .i64 4)).run Tryz.prog w=.ok (.string ⟨#[66,111,117,110,100,115]⟩) w:=by kernel_rfl
theorem ztq(w:World):(Instr.index 201 (.agg exnV) (.int .i64 5)).run Tryz.prog w=.ok (.string ⟨#[83,105,122,101]⟩) w:=by kernel_rfl
theorem zxh(i:Nat)(hi:i < 6)(w:World):(Instr.index 201 (.agg exnV) (.int .i64 i)).run Tryz.prog w=.ok (.string ⟨((exnT[i]?).getD []).toArray⟩) w:=by
 have:i=0\/i=1\/i=2\/i=3\/i=4\/i=5:=by omega
 rcases this with rfl | rfl | rfl | rfl | rfl | rfl
 ·exact ztv w
 ·exact ztu w
 ·exact ztt w
 ·exact zts w
 ·exact ztr w
 ·exact ztq w
theorem znu(h:J X w g m R)(hE:ExIn X.wc)(hT:zX X.wc X.pt X.cd.texts)(a b:Cl)(hab:zI R a b)(hx:exnB m.D b=true)(hf:b.p=true->0 < lenA m.D b.n/\(getA m.D b.n 0).p=false/\0<=(getA m.D b.n 0).n/\(getA m.D b.n 0).n < X.cd.texts.length):∀ wx,Kp [] w wx->Calls Tryz.prog 84 #[.pointer (some ⟨X.mm,0,none⟩),.agg #[.bool a.p,.int .i64 a.n]] wx fun e w'=>e=.returned (.string (nameA X.cd m.D b))/\Kp [] w w':=by
 intro w0 hk0
 obtain⟨ap,an⟩:=a
 cases ap with
 | true=>
  obtain⟨hbp,t,u,ht,hu,hth⟩:=h.thing hab rfl
  obtain⟨hl0,hp0,hn0,hn1⟩:=hf hbp
  have hlen:0 < t.fs.length:=by
   unfold lenA at hl0
   rw[hu] at hl0
   rw[hth.fs.len]
   exact hl0
  have hc:=zim hu hth 0 hlen
  have hcp:(t.fs[0]'hlen).p=false:=by rw[hc.1];exact hp0
  have hcn:=hc.2.1 hcp
  obtain⟨k,hk⟩:∃ k:Nat,(getA m.D b.n 0).n=k:=⟨(getA m.D b.n 0).n.toNat,by omega⟩
  have hkl:k < X.cd.texts.length:=by omega
  obtain⟨tb,tof,htp,htl,htc⟩:=hT.get k hkl
  have e:nameA X.cd m.D b=X.cd.texts[k]'hkl:=by
   unfold nameA
   rw[hbp,hk,if_pos rfl,Int.toNat_natCast,gE hkl]
   rfl
  rw[e]
  simp only
  have hk1:Kp [] w (w0.alloc (.cells #[.bool true,.int .i64 an] 67)):=hk0.trans kA
  have hJ1:=h.kp hk1
  have hbx:(w0.alloc (.cells #[.bool true,.int .i64 an] 67)).heap[w0.heap.size]? = some (.cells #[.bool true,.int .i64 an] 67):=zab w0 _
  have HF:Hid (∀ wx,Kp [] (w0.alloc (.cells #[.bool true,.int .i64 an] 67)) wx->(wx.cell? ⟨w0.heap.size,0,none⟩=some (.bool true)/\wx.cell? ⟨w0.heap.size,1,none⟩=some (.int .i64 an)/\w0.heap.size < wx.heap.size)/\wx.cell? ⟨X.mm,2,none⟩=some (.pointer (some ⟨X.hp,0,none⟩))/\wx.cell? ⟨X.mm,0,none⟩=some (.slice (some ⟨tb,tof,none⟩) X.cd.texts.length X.ct)/\X.mm < wx.heap.size):=fun wx hx=>by
   have e1:=(hx.block _ (sz hbx) (by simp)).trans hbx
   have hb1:=((h.kp hk1).box.kp hx (by simp))
   exact⟨⟨by simp only[World.cell?,e1];rfl,by simp only[World.cell?,e1];rfl,(sz e1)⟩,hb1.heap.1,(by rw[<-htp];exact hb1.code.1),hb1.lt⟩
  have HKd:Hid (∀ wx,Kp [] (w0.alloc (.cells #[.bool true,.int .i64 an] 67)) wx->Calls Tryz.prog 82 #[.pointer (some ⟨X.hp,0,none⟩),.int .i64 an,.int .i64 0] wx fun e w'=>e=.returned (.agg #[.bool false,.int .i64 k])/\Kp [] (w0.alloc (.cells #[.bool true,.int .i64 an] 67)) w'):=fun wx hx=>by
   have hz:=(hJ1.pget wx hx an t ht).2.2.2 0 hlen
   unfold Cl.val at hz
   rw[hcp,hcn,hk] at hz
   exact hz
  have HTx:Hid (∀ wx,Kp [] (w0.alloc (.cells #[.bool true,.int .i64 an] 67)) wx->wx.cell? ⟨tb,tof+k,none⟩=some (.string (X.cd.texts[k]'hkl))/\tb < wx.heap.size):=fun wx hx=>by
   have hb2:=(hJ1.kp hx).bl
   exact⟨(hb2.cell (p:=⟨tb,tof+k,none⟩) htl).trans htc,lL htl hb2.size⟩
  have hlt:(k:Int) < (X.cd.texts.length:Int):=by omega
  have HK0:Hid (Kp [] (w0.alloc (.cells #[.bool true,.int .i64 an] 67)) (w0.alloc (.cells #[.bool true,.int .i64 an] 67)).drew):=kr.drew
  have HK1:=zh hk1
  have fd:=za9
  clear h hab hk0 hk1 hbx e ht hu hth hbp hf hc hE hJ1 hT htp htl htc hk hcp hcn hlen hl0 hp0 hn0 hn1 hx
  generalize X.cd.texts[k]'hkl=tx at *
  clear hkl
  generalize X.cd.texts.length=tlen at *
  go_enter Tryz.func84,Tryz.ntmps84
  obtain⟨⟨f0,f1,f2⟩,f3,f5,f4⟩:=HF.o _ kr
  go_upto_region 2 with fail
  clear f0 f1 f2 f3 f4 f5
  generalize w0.alloc _=w1 at *
  generalize w0.heap.size=b0 at *
  refine rQ HK0.o (fun ops Hops=>?_)
  repeat
   (refine wQ ?_;apply xI;(·intro wx hwx;obtain⟨⟨f0,f1,f2⟩,f3,f5,f4⟩:=HF.o wx hwx;obtain⟨f6,f7⟩:=HTx.o wx hwx;go_simp <;> first | with_reducible rfl | with_reducible exact⟨rfl,rfl⟩ | exact HKd.o _ hwx);try go_simp)
  refine wpQuiet_nil ?_
  clear Hops ops
  intro w9 hw9
  have Q:=zh (HK1.o.trans hw9)
  clear hw9
  go_wp2
  exact bR (by simp[results,Tryz.results84,go_sem]) ⟨rfl,Q.o⟩
 | false=>
  have hbp:b.p=false:=hab.1.symm
  have hbn:an=b.n:=hab.2.1 rfl
  have hrg:-6<=an/\an<=-1:=by
   unfold exnB at hx
   rw[hbp] at hx
   rw[hbn]
   simpa using hx
  obtain⟨i,hi⟩:∃ i:Nat,-1 - an=i:=⟨(-1 - an).toNat,by omega⟩
  have hi6:i < 6:=by omega
  have e:nameA X.cd m.D b=⟨((exnT[i]?).getD []).toArray⟩:=by
   unfold nameA
   rw[hbp,<-hbn,hi]
   rfl
  rw[e]
  simp only
  have hk1:Kp [] w (w0.alloc (.cells #[.bool false,.int .i64 an] 67)):=hk0.trans kA
  have hJ1:=h.kp hk1
  have hbx:(w0.alloc (.cells #[.bool false,.int .i64 an] 67)).heap[w0.heap.size]? = some (.cells #[.bool false,.int .i64 an] 67):=zab w0 _
  have HF:Hid (∀ wx,Kp [] (w0.alloc (.cells #[.bool false,.int .i64 an] 67)) wx->(wx.cell? ⟨w0.heap.size,0,none⟩=some (.bool false)/\wx.cell? ⟨w0.heap.size,1,none⟩=some (.int .i64 an)/\w0.heap.size < wx.heap.size)/\wx.cell? ⟨X.mm,2,none⟩=some (.pointer (some ⟨X.hp,0,none⟩))/\wx.cell? ⟨X.mm,0,none⟩=some (.slice X.pt X.cd.texts.length X.ct)/\X.mm < wx.heap.size):=fun wx hx=>by
   have e1:=(hx.block _ (sz hbx) (by simp)).trans hbx
   have hb1:=((h.kp hk1).box.kp hx (by simp))
   exact⟨⟨by simp only[World.cell?,e1];rfl,by simp only[World.cell?,e1];rfl,(sz e1)⟩,hb1.heap.1,hb1.code.1,hb1.lt⟩
  have HX:Hid (∀ wx,Kp [] (w0.alloc (.cells #[.bool false,.int .i64 an] 67)) wx->Calls Tryz.prog 100 #[] wx fun e w'=>e=.returned (.agg exnV)/\Kp [] (w0.alloc (.cells #[.bool false,.int .i64 an] 67)) w'):=fun wx hx=>cM (zmt wx ((hE.below hJ1.bl).kp hx)) (fun e w' q=>⟨q.1,hx.trans q.2⟩)
  have hw1:IntKind.i64.wrap (-1 - an)=(i:Int):=by rw[IntKind.wrap_i64];omega
  have hix:=zxh i hi6
  have HK0:Hid (Kp [] (w0.alloc (.cells #[.bool false,.int .i64 an] 67)) (w0.alloc (.cells #[.bool false,.int .i64 an] 67)).drew):=kr.drew
  have HK1:=zh hk1
  clear h hab hk0 hk1 hbx e hE hJ1 hT hx hf hrg hi hbn hbp
  generalize ((exnT[i]?).getD []).toArray=tx at *
  go_enter Tryz.func84,Tryz.ntmps84
  obtain⟨⟨f0,f1,f2⟩,f3,f5,f4⟩:=HF.o _ kr
  go_upto_region 3 with fail
  clear f0 f1 f2 f3 f4 f5
  generalize w0.alloc _=w1 at *
  generalize w0.heap.size=b0 at *
  refine rQ HK0.o (fun ops Hops=>?_)
  repeat
   (refine wQ ?_;apply xI;(·intro wx hwx;obtain⟨⟨f0,f1,f2⟩,f3,f5,f4⟩:=HF.o wx hwx;go_simp <;> first | with_reducible rfl | with_reducible exact⟨rfl,rfl⟩ | exact HX.o _ hwx);try go_simp)
  refine wpQuiet_nil ?_
  clear Hops ops
  intro w9 hw9
  have Q:=zh (HK1.o.trans hw9)
  clear hw9
  go_wp2
  exact bR (by simp[results,Tryz.results84,go_sem]) ⟨rfl,Q.o⟩
end
end Go.Proofs.YtkcmachfagcnaaaGreatDoor
namespace Go.Proofs.YtkcmachfagcnaaaGreatDoor
open Go.RowKit Go.Deep Go.IntWalk
open C12 (Cd Fn In zT)
theorem zw1{w:World}{hb:Nat}{cells first:Int}{v:Value}{ts:List Th}(h:HpO w hb cells first v (encL (fun _=>0) first ts))(hc:zdn first ts)(ho:∀ t∈ts,okTh t){x:Int}{t:Th}(hx:zO first ts x=some t)(i:Nat)(hi:i < t.fs.length)(c:Cl)(hcr:c.p=true->(zO first ts c.n).isSome=true)(hcw:wfC c) :
  Calls Tryz.prog 52 #[.pointer (some ⟨hb,0,none⟩),.int .i64 x,.int .i64 i,c.val] w fun e w'=>∃ ts',e=.returned (.tuple #[])/\HpO w' hb cells first v (encL (fun _=>0) first ts')/\zdn first ts'/\(∀ t∈ts',okTh t)/\zO first ts'=upd (zO first ts) x (some ⟨t.kind,t.tag,t.fs.set i c⟩)/\total ts'=total ts/\Kp v.ownBlock.toList w w':=by
 obtain⟨l,r,rfl,rfl⟩:=zed _ _ _ hx
 have hd:=zrc (fun _=>0) first l t r
 refine cM (zvk w hb cells first v _ h (total l) _ hd i (by simp only[hdw];omega) c) ?_
 rintro e w' ⟨w',h1,h2⟩
 have hdoc:=zwi first l t ⟨t.kind,t.tag,t.fs.set i c⟩ r (by simp[Th.sz])
 refine⟨l++⟨t.kind,t.tag,t.fs.set i c⟩ :: r,rfl,by rw[<-zwe _ _ _ _ _ _ hi];exact h1,?_,?_,hdoc,?_,h2⟩
 ·have hsome:∀ y,(zO first (l++t :: r) y).isSome=true->(zO first (l++⟨t.kind,t.tag,t.fs.set i c⟩ :: r) y).isSome=true:=fun y hy=>by
   rw[hdoc]
   unfold upd
   split
   ·rfl
   ·exact hy
  intro u hu y hy
  apply hsome
  rcases List.mem_append.1 hu with hu | hu
  ·exact hc u (by simp[hu]) y hy
  ·rcases List.mem_cons.1 hu with rfl | hu
   ·rcases List.mem_or_eq_of_mem_set hy with hy | hy
    ·exact hc t (by simp) y hy
    ·have h3:=hcr (by rw[<-hy])
     rw[<-hy] at h3
     exact h3
   ·exact hc u (by simp[hu]) y hy
 ·intro u hu
  rcases List.mem_append.1 hu with hu | hu
  ·exact ho u (by simp[hu])
  ·rcases List.mem_cons.1 hu with rfl | hu
   ·obtain⟨k1,k2,k3,k4,k5⟩:=ho t (by simp)
    refine⟨k1,k2,k3,k4,fun d hd=>?_⟩
    rcases List.mem_or_eq_of_mem_set hd with hd | hd
    ·exact k5 d hd
    ·rw[hd]
     exact hcw
   ·exact ho u (by simp[hu])
 ·simp[zd4,total,Th.sz]
section
variable{X:Fx}{w:World}{g:Pg}{m:AM}{R:Int->Int->Prop}
theorem zk3{D:Doc}{y:Int}{u:Th}(hu:D y=some u)(i:Nat)(d:Cl):setA D y i d=upd D y (some ⟨u.kind,u.tag,u.fs.set i d⟩):=by
 unfold setA
 rw[hu]
 rfl
def AM.setD(m:AM)(y:Int)(i:Nat)(d:Cl):AM:={m with D:=setA m.D y i d}
theorem zdp(h:J X w g m R){x y:Int}(hR:R x y)(i:Nat)(hi:i < lenA m.D y)(c d:Cl)(hcd:zI R c d)(hwf:wfC c):Calls Tryz.prog 52 #[.pointer (some ⟨X.hp,0,none⟩),.int .i64 x,.int .i64 i,.agg #[.bool c.p,.int .i64 c.n]] w fun e w'=>e=.returned (.tuple #[])/\∃ ts',J X w' {g with ts:=ts'} (m.setD y i d) R/\Mv X w g w' {g with ts:=ts'}:=by
 obtain⟨t,u,ht,hu,hth⟩:=h.th x y hR
 have hlen:i < t.fs.length:=by
  unfold lenA at hi
  rw[hu] at hi
  rw[hth.fs.len]
  exact hi
 refine cM (zw1 h.hh h.cl h.oth ht i hlen c (fun hp=>?_) hwf) ?_
 ·obtain⟨_,t2,u2,h2,_⟩:=h.thing hcd hp
  rw[h2]
  rfl
 ·rintro e w' ⟨ts',rfl,hp,hcl,hok,hdoc,htot,hk⟩
  refine⟨rfl,ts',?_,?_⟩
  ·have hmb:=h.box
   unfold MBx at hmb
   have off:∀ (v:Value) (t:TypeId),blkT w v t->t≠186->∀ k,v.ownBlock=some k->k∉g.v.ownBlock.toList:=fun v t hv hne k hk hx=>by
    obtain⟨_,cur,hc⟩:=hv k hk
    obtain⟨_,cur',hc'⟩:=h.tw k (by simpa using hx)
    rw[hc] at hc'
    cases hc'
    exact hne rfl
   have hiso:=h.iso.set hR ht hu i hcd
   refine⟨h.box.kp hk (h.tw.ne hmb (by decide)),zaf h.oc hk (off _ _ h.tc (by decide)),zaf h.os hk (off _ _ h.ts (by decide)),zaf h.ov hk (off _ _ h.tv (by decide)),zaf h.ot hk (off _ _ h.tt (by decide)),zaf h.oo hk (off _ _ h.to (by decide)),h.dj,hp,hcl,hok,h.wfr,h.one,h.st,?_,h.lbw hk (fun y hy=>by simp only[fpt,List.mem_cons,List.mem_append];exact Or.inr (Or.inr (Or.inl hy))),h.lb,Nat.le_trans h.bs hk.size,h.ck,h.fb,h.nx,?_,h.len⟩
   ·intro x' y' hR'
    have:=hiso.things x' y' hR'
    rw[<-hdoc,<-zk3 hu] at this
    exact this
   ·intro y' hy'
    show y' < m.next
    have hy2:(setA m.D y i d y').isSome=true:=hy'
    rw[zk3 hu] at hy2
    by_cases e:y'=y
    ·subst e
     exact h.nd y' (by rw[hu];rfl)
    ·rw[zav _ _ e] at hy2
     exact h.nd y' hy2
  ·exact⟨hk.mono (fun y hy=>by simp only[fpt,List.mem_cons,List.mem_append];exact Or.inr (Or.inr (Or.inl hy))),fun k hk=>Or.inl hk⟩
end
end Go.Proofs.YtkcmachfagcnaaaGreatDoor
