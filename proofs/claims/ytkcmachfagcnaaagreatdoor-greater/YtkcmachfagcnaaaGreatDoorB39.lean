/- Part of Greater. -/
import Derived.Test.YtkcmachfagcnaaaGreatDoorB38
set_option maxHeartbeats 8000000
set_option maxRecDepth 100000
namespace Go.Proofs.YtkcmachfagcnaaaGreatDoor
open Go.RowKit Go.Deep Go.IntWalk
open C12 (Cd Fn In zT)
section
variable{X:Fx}{w:World}{g:Pg}{m:AM}{R:Int->Int->Prop}
theorem zrw(h:J X w g m R)(hd:okD X.cd m.D)(hL:LibIn X.wc)(hn:0 < m.s.cA.length)(hnx:m.next+1<=1000000000)(a b:Cl)(hab:zI R a b)(hwf:wfC a)(hok:okC b)(htop:a=g.s.top 0/\b=m.s.top 0)(Hvv:0 < m.s.vA.length):Calls Tryz.prog 99 #[.pointer (some ⟨X.mm,0,none⟩),sg [114,101,102],.agg #[.bool a.p,.int .i64 a.n]] w fun e w'=>zP X w g m (.make ⟨3,0,[b]⟩) e w':=by
 obtain⟨ap,an⟩:=a
 simp only
 obtain⟨w1,hw1,HB,HJ⟩:=pre2W h (.cells #[.bool ap,.int .i64 an] 67) (.cells #[.bool false,.int .i64 0] 67)
 have HF:=hf2 HB.o HJ.o
 have Hd:=zh hd
 have HLi:=zh hL
 have Hn:Hid (_/\_):=⟨hn,hnx⟩
 have Hab:Hid (zI R ⟨ap,an⟩ b/\wfC ⟨ap,an⟩/\okC b/\(⟨ap,an⟩:Cl)=g.s.top 0/\b=m.s.top 0):=⟨hab,hwf,hok,htop⟩
 clear hd hL h hab hn hnx hwf hok htop
 generalize hA:(.make ⟨3,0,[b]⟩:Act1)=act
 have HA:=zh hA
 clear hA
 unfold sg
 go_enter Tryz.func99,Tryz.ntmps99
 go_upto_region 21 with fail
 rw[<-hw1.out]
 have HM:Hid _:=zgt HJ.o Hn.o.1 Hn.o.2 3 0 1 (by omega)
 go_wp2_with fail
 refine cM HM.o ?_
 intro e w4 q
 cases q with
 | no w4 g' R' hr hJ hmv=>
  obtain⟨mv,a1,o1,a2,o2,hwc⟩:=HB.o
  obtain⟨o2r,k2r⟩:=o2.mv hmv
  have hk5:Kp [] w4 (w4.alloc (.cells #[.bool false,.int .i64 0] 67)):=kA
  have hbz:=zad (k2r.trans a2) hk5
  obtain⟨e0,e1,_,_,el⟩:=zaa (zab w4 (.cells #[.bool false,.int .i64 0] 67))
  obtain⟨y0,y1,z0,z1,cl⟩:=zaa hbz
  obtain⟨d0,d1,_⟩:=zaa (zae hbz (.bool false) (.int .i64 0))
  have Q:Hid (zP X w g m act (.returned (.tuple #[.agg #[.bool false,.int .i64 0],.int .i64 3])) (((w4.alloc (.cells #[.bool false,.int .i64 0] 67)).setCell ⟨w.heap.size+1,0,none⟩ (.bool false)).setCell ⟨w.heap.size+1,1,none⟩ (.int .i64 0))):=by
   unfold Hid
   rw[<-HA.o]
   have h9:=fin2 (hJ.kp hk5) (mv.trans (hmv.trans (Mv.zk hk5))) ⟨lL o2r.1 hk5.size,o2r.2⟩ (show w.heap.size<=w.heap.size+1 by omega) hwc (.bool false) (.int .i64 0)
   exact zP.fail 3 m.bump (failOf.make _ hr) _ g' R' h9.1 h9.2
  clear a1 o1 a2 o2 mv hwc hbz hk5 o2r k2r hJ hmv hr
  go_wp2_with fail
  exact bR (by simp[results,Tryz.results99,go_sem,d0,d1]) Q.o
 | yes w4 g' R' x hr hJ hR hwf hmv=>
  obtain⟨mv,a1,o1,a2,o2,hwc⟩:=HB.o
  obtain⟨o2r,k2r⟩:=o2.mv hmv
  have hk5:Kp [] w4 (w4.alloc (.cells #[.bool true,.int .i64 x] 67)):=kA
  have hJ5:=hJ.kp hk5
  have hb5:(w4.alloc (.cells #[.bool true,.int .i64 x] 67)).heap[w4.heap.size]? = some (.cells #[.bool true,.int .i64 x] 67):=zab w4 _
  have hbz:=zad (k2r.trans a2) hk5
  have o5:Off X (w4.alloc (.cells #[.bool true,.int .i64 x] 67)) g' w4.heap.size:=hJ.off (Nat.le_refl _) (by simp)
  have o25:Off X (w4.alloc (.cells #[.bool true,.int .i64 x] 67)) g' (w.heap.size+1):=⟨lL o2r.1 hk5.size,o2r.2⟩
  have HS:Hid (_/\_/\_/\_/\_/\_/\_/\_/\_):=⟨hb5,hbz,o5,o25,hR,hr,hwf,hwc,mv.trans (hmv.trans (Mv.zk hk5))⟩
  have hv0:=Hvv
  have hvl:=hJ5.vlen
  have HT:Hid (∀ wx,Kp [] (w4.alloc (.cells #[.bool true,.int .i64 x] 67)) wx->Calls Tryz.prog 49 #[.pointer (some ⟨X.mm,0,none⟩),.int .i64 0] wx fun e w'=>e=.returned (.agg #[.bool (g'.s.top 0).p,.int .i64 (g'.s.top 0).n])/\Kp [] (w4.alloc (.cells #[.bool true,.int .i64 x] 67)) w'):=zbc hJ5 0 (by rw[hvl];exact hv0)
  have HSet:Hid (∀ wx,Kp [] (w4.alloc (.cells #[.bool true,.int .i64 x] 67)) wx->Calls Tryz.prog 52 #[.pointer (some ⟨X.hp,0,none⟩),.int .i64 x,.int .i64 0,.agg #[.bool (g'.s.top 0).p,.int .i64 (g'.s.top 0).n]] wx fun e w'=>e=.returned (.tuple #[])/\∃ ts2,J X w' {g' with ts:=ts2} (m.make ⟨3,0,[b]⟩) R'/\Mv X (w4.alloc (.cells #[.bool true,.int .i64 x] 67)) g' w' {g' with ts:=ts2}):=by
   rw[Hab.o.2.2.2.2]
   exact zk2 hJ5 hR (g'.s.top 0) (m.s.top 0) (hJ5.top 0 hv0) (hJ5.topwf 0 hv0)
  have HF2:Hid (∀ wx,Kp [] (w4.alloc (.cells #[.bool true,.int .i64 x] 67)) wx->(wx.cell? ⟨X.mm,2,none⟩=some (.pointer (some ⟨X.hp,0,none⟩))/\X.mm < wx.heap.size)/\wx.cell? ⟨w4.heap.size,0,none⟩=some (.bool true)/\wx.cell? ⟨w4.heap.size,1,none⟩=some (.int .i64 x)/\w4.heap.size < wx.heap.size):=fun wx hx=>by
   have e1:=zaa (zad hb5 hx)
   have hb1:=hJ5.box.kp hx (by simp)
   exact⟨⟨hb1.heap.1,hb1.lt⟩,e1.1,e1.2.1,e1.2.2.2.2⟩
  clear a1 o1 a2 o2 mv hwc hbz hk5 o2r k2r hJ hJ5 hmv hr hR hwf hb5 o5 o25 hv0 hvl
  go_upto_region 23 with fail
  generalize w4.alloc _=w5 at *
  generalize w4.heap.size=b5 at *
  generalize g'.s.top 0=tc at *
  obtain⟨tp,tn⟩:=tc
  simp only at HT HSet
  refine zan 8 (C:=fun wx=>Kp [] w5 wx) (by kernel_rfl) ?_
  refine qT 0 rfl ?_
  apply xI
  (intro wx hwx;go_simp <;> rfl)
  refine qT 1 rfl ?_
  apply xI
  (intro wx hwx;go_simp <;> rfl)
  refine qT 2 rfl ?_
  apply xI
  (intro wx hwx;go_simp <;> rfl)
  refine qT 3 rfl ?_
  apply xI
  (intro wx hwx;obtain⟨⟨f3,f4⟩,f0,f1,f2⟩:=HF2.o wx hwx;go_simp <;> rfl)
  refine qT 4 rfl ?_
  apply xI
  (intro wx hwx;go_simp <;> rfl)
  refine qT 5 rfl ?_
  apply xI
  (intro wx hwx;obtain⟨⟨f3,f4⟩,f0,f1,f2⟩:=HF2.o wx hwx;go_simp <;> rfl)
  refine qT 6 rfl ?_
  apply xI
  (intro wx hwx;go_simp <;> rfl)
  refine oL 7 (Kp.refl _ _).drew rfl (fun K hK=>?_)
  go_simp
  refine cM (HT.o _ (Kp.refl _ _).drew) ?_
  rintro e9 w9 ⟨rfl,hw9⟩
  refine hK _ _ ?_
  clear hK K
  refine oL 8 hw9 rfl (fun K hK=>?_)
  go_simp
  refine cM (HSet.o _ hw9) ?_
  rintro e10 w10 ⟨rfl,ts2,hJ2,hm2⟩
  refine hK _ _ ?_
  clear hK K
  refine zas (by kernel_rfl) (by kernel_rfl) ?_
  go_simp
  obtain⟨hb5,hbz,o5,o25,hR,hr,hwf,hwc,hmw⟩:=HS.o
  obtain⟨o5r,k5r⟩:=o5.mv hm2
  obtain⟨o25r,k25r⟩:=o25.mv hm2
  obtain⟨e0,e1,_,_,el⟩:=zaa (k5r.trans hb5)
  have hbzr:=k25r.trans hbz
  obtain⟨y0,y1,z0,z1,cl⟩:=zaa hbzr
  obtain⟨d0,d1,_⟩:=zaa (zae hbzr (.bool true) (.int .i64 x))
  have Q:Hid (zP X w g m act (.returned (.tuple #[.agg #[.bool true,.int .i64 x],.int .i64 0])) ((w10.setCell ⟨w.heap.size+1,0,none⟩ (.bool true)).setCell ⟨w.heap.size+1,1,none⟩ (.int .i64 x))):=by
   unfold Hid
   rw[<-HA.o]
   have h9:=fin2 hJ2 (hmw.trans hm2) o25r (show w.heap.size<=w.heap.size+1 by omega) hwc (.bool true) (.int .i64 x)
   exact zP.val ⟨true,x⟩ ⟨true,m.next⟩ _ (valOf.make _ hr) _ _ R' h9.1 ⟨rfl,(fun e=>by cases e),fun _=>hR⟩ hwf h9.2
  clear hb5 hbz o5 o25 hR hr hwf hwc hmw o5r k5r o25r k25r hbzr hJ2 hm2 hw9
  go_wp2_with fail
  exact bR (by simp[results,Tryz.results99,go_sem,d0,d1]) Q.o
def baseT:List (List UInt8):=[[110,111,116],[112,114,105,110,116],[115,116,114],[115,105,122,101],[115,117,98],[112,97,114,116],[99,104,114],[114,101,102],[97,114,114,97,121],[108,101,110,103,116,104],[97,116],[112,117,116]]
theorem zun(h:J X w g m R)(hd:okD X.cd m.D)(hL:LibIn X.wc)(hn:0 < m.s.cA.length)(hnx:m.next+1<=1000000000)(a b:Cl)(hab:zI R a b)(hwf:wfC a)(hok:okC b)(htop:a=g.s.top 0/\b=m.s.top 0)(Hvv:0 < m.s.vA.length)(k:Nat)(hk:k < 12):Calls Tryz.prog 99 #[.pointer (some ⟨X.mm,0,none⟩),sg ((baseT[k]?).getD []),.agg #[.bool a.p,.int .i64 a.n]] w fun e w'=>zP X w g m (baseA m.D m.out k b) e w':=by
 have hc:k=0\/k=1\/k=2\/k=3\/k=4\/k=5\/k=6\/k=7\/k=8\/k=9\/k=10\/k=11:=by omega
 rcases hc with rfl | rfl | rfl | rfl | rfl | rfl | rfl | rfl | rfl | rfl | rfl | rfl
 ·exact zr3 h hd hL hn hnx a b hab hwf hok htop
 ·exact zr2 h hd hL hn hnx a b hab hwf hok htop
 ·exact zr1 h hd hL hn hnx a b hab hwf hok htop
 ·exact zr0 h hd hL hn hnx a b hab hwf hok htop
 ·exact zrz h hd hL hn hnx a b hab hwf hok htop
 ·exact zry h hd hL hn hnx a b hab hwf hok htop
 ·exact zrx h hd hL hn hnx a b hab hwf hok htop
 ·exact zrw h hd hL hn hnx a b hab hwf hok htop Hvv
 ·exact zrv h hd hL hn hnx a b hab hwf hok htop
 ·exact zru h hd hL hn hnx a b hab hwf hok htop
 ·exact zop h hd hL hn hnx a b hab hwf hok htop
 ·exact zoo h hd hL hn hnx a b hab hwf hok htop
theorem zxv(R:Int->Int->Prop):zI R default default:=⟨rfl,fun _=>rfl,fun e=>by cases e⟩
theorem J.appS(h:J X w g m R){w4:World}{v':Value}(ho:w4.ownsRow X.base 67 2 v' (g.s.sA.length+1) (zbv g.s.sA++[.bool false,.int .i64 0]))(hk:Kp g.vs.ownBlock.toList w w4)(hv:sameB w g.vs v')(hn:m.s.sA.length+1<=1000000000):J X (w4.setCell ⟨X.mm,31,none⟩ v') (g.setS v' (g.s.sA++[default])) (m.setS (m.s.sA++[default])) R/\Mv X w g (w4.setCell ⟨X.mm,31,none⟩ v') (g.setS v' (g.s.sA++[default])):=by
 have hmb:=h.box
 unfold MBx at hmb
 have hbx:=h.box.kp hk (h.ts.ne hmb (by decide))
 have hk5:Kp [X.mm] w4 (w4.setCell ⟨X.mm,31,none⟩ v'):=Kp.setCell _ _ (by simp) _
 have hkk:Kp (X.mm :: g.vs.ownBlock.toList) w (w4.setCell ⟨X.mm,31,none⟩ v'):=(hk.mono (fun x hx=>List.mem_cons_of_mem _ hx)).then hk5 (by simp)
 have ho5:OwnC w4 X.base v' (g.s.sA++[default]):=by
  unfold OwnC
  rw[zhz,lA]
  exact ho
 exact h.sA (w':=w4.setCell ⟨X.mm,31,none⟩ v') (v:=v') (l:=g.s.sA++[default]) (l2:=m.s.sA++[default]) (hbx.setS v') (by
   refine zaf (X:=[X.mm]) ho5 hk5 (fun k e=>?_)
   simp only[List.mem_singleton]
   rintro rfl
   rcases hv.or e with e | e
   ·exact h.ts.ne hmb (by decide) (by simpa using e)
   ·have:=h.box.lt
    omega) hkk hv (h.st.sl.snoc (zxv R)) (fun c hc=>by
   rcases List.mem_append.1 hc with hc | hc
   ·exact h.swf c hc
   ·rw[List.mem_singleton.1 hc]
    exact zco (by omega)) (by have:=h.slen;simp;omega)
theorem zsw{base:Nat}{v:Value}{l:List Cl}(h:OwnC w base v l){gs cap:Nat}(hv:v=.slice (some ⟨gs,0,none⟩) l.length cap)(i:Nat)(hi:i < l.length)(p:Cl):OwnC ((w.setCell ⟨gs,i * 2,none⟩ (.bool p.p)).setCell ⟨gs,i * 2+1,none⟩ (.int .i64 p.n)) base v (l.set i p):=by
 subst hv
 unfold OwnC at h ⊢
 rcases zbg h with⟨h1,_⟩ | ⟨g2,cap2,cur,h1,h2,h3,h4,h5,h6,h7⟩
 ·cases h1
 ·cases h1
  rw[List.length_set]
  refine zgn h2 (zaq (zaq h3 _ _) _ _) h4 h5 (by simpa using h6) (by rw[zhy,List.length_set]) (fun j hj=>?_)
  have e0:=h7 j hj
  obtain⟨a,k,hk,rfl⟩:∃ a k,k < 2/\j=a * 2+k:=⟨j / 2,j % 2,by omega,by omega⟩
  have ha:a < l.length:=by omega
  rw[zbh l a ha k hk] at e0
  rw[zbh (l.set i p) a (by simpa using ha) k hk,List.getElem_set,Array.getElem?_setIfInBounds,Array.getElem?_setIfInBounds]
  have hsz:i * 2+1 < cur.size:=by rw[h6];omega
  by_cases hai:i=a
  ·subst hai
   rw[if_pos rfl]
   obtain rfl | rfl:k=0\/k=1:=by omega
   ·rw[if_neg (by omega),if_pos (by omega),if_pos (by omega)]
    rfl
   ·rw[if_pos rfl,if_pos (by simpa using hsz)]
    rfl
  ·rw[if_neg hai,if_neg (by omega),if_neg (by omega),e0]
theorem J.setSlot(h:J X w g m R){gs cap:Nat}(hvs:g.vs=.slice (some ⟨gs,0,none⟩) g.s.sA.length cap)(i:Nat)(hi:i < g.s.sA.length)(p v:Cl)(hpv:zI R p v)(hwf:wfC p):J X ((w.setCell ⟨gs,i * 2,none⟩ (.bool p.p)).setCell ⟨gs,i * 2+1,none⟩ (.int .i64 p.n)) (g.setS g.vs (g.s.sA.set i p)) (m.setS (m.s.sA.set i v)) R/\Mv X w g ((w.setCell ⟨gs,i * 2,none⟩ (.bool p.p)).setCell ⟨gs,i * 2+1,none⟩ (.int .i64 p.n)) (g.setS g.vs (g.s.sA.set i p)):=by
 have hob:g.vs.ownBlock=some gs:=by rw[hvs];rfl
 have hk:Kp [gs] w ((w.setCell ⟨gs,i * 2,none⟩ (.bool p.p)).setCell ⟨gs,i * 2+1,none⟩ (.int .i64 p.n)):=(Kp.setCell _ _ (by simp) _).trans (Kp.setCell _ _ (by simp) _)
 have hmb:=h.box
 unfold MBx at hmb
 have hne:X.mm∉[gs]:=by
  have:=h.ts.ne hmb (by decide)
  rw[hob] at this
  simpa using this
 refine h.sA (v:=g.vs) (l:=g.s.sA.set i p) (l2:=m.s.sA.set i v) (h.box.kp hk hne) (zsw h.os hvs i hi p) (hk.mono (by rw[hob];simp)) (Or.inl rfl) (h.st.sl.set i hpv) (fun c hc=>?_) (by have:=h.len.2.1;simpa using this)
 rcases List.mem_or_eq_of_mem_set hc with hc | rfl
 ·exact h.swf c hc
 ·exact hwf
end
def slotsN(X:Fx)(w:World):Nat:=match w.cell? ⟨X.mm,31,none⟩ with
 | some (.slice _ n _)=>n
 | _=>0
theorem zty{l:List Cl}{n j:Nat}(h:j<=n - l.length)(h2:n<=(l++List.replicate j default).length):l++List.replicate j default=zhv l n:=by
 unfold zhv
 rw[lA,List.length_replicate] at h2
 rw[show n - l.length=j by omega]
section
variable{X:Fx}{w:World}{g:Pg}{m:AM}{R:Int->Int->Prop}
theorem J.slotsN(h:J X w g m R):slotsN X w=m.s.sA.length:=by
 obtain⟨q,cap,hv,-⟩:=zah h.os
 have c0:w.cell? ⟨X.mm,31,none⟩=some (.slice q g.s.sA.length cap):=by rw[<-hv];exact h.box.rows.2.1
 unfold Go.Proofs.YtkcmachfagcnaaaGreatDoor.slotsN
 rw[c0]
 exact h.slen
theorem zo5(h:J X w g m R)(hn:0 < m.s.cA.length)(i:Nat)(hi:m.s.cur.sb+i+1<=1000000000)(p v:Cl)(hpv:zI R p v)(hwf:wfC p):Calls Tryz.prog 48 #[.pointer (some ⟨X.mm,0,none⟩),.int .i64 i,.agg #[.bool p.p,.int .i64 p.n]] w fun e w'=>e=.returned (.tuple #[])/\∃ g',J X w' g' {m with s:=m.s.store i v} R/\Mv X w g w' g':=by
 obtain⟨vp,vn⟩:=p
 simp only
 obtain⟨j1,m1,a1,o1⟩:=zbe h (.cells #[.bool vp,.int .i64 vn] 67)
 have hcl:=j1.clen
 have hcu:=j1.cur hn
 obtain⟨gc,cap,hvc,hcur⟩:=j1.curAt (by omega)
 have HI:Hid _:=zbw j1 (by omega) (gc:=gc) (cap:=cap) (fun wx hx=>(hcur wx hx).1)
 have HC:Hid (∀ wx,Kp [] (w.alloc (.cells #[.bool vp,.int .i64 vn] 67)) wx->wx.cell? ⟨gc,(g.s.cA.length - 1) * 9+6,none⟩=some (.int .i64 m.s.cur.sb)/\gc < wx.heap.size):=fun wx hx=>by
  have e8:=(hcur wx hx).2.1 6 (by omega)
  refine⟨?_,(hcur wx hx).2.2⟩
  rw[e8]
  show some (Value.int .i64 (g.s.cur.sb:Nat))=_
  rw[hcu.sb]
 obtain⟨sb,hsb⟩:∃ sb,sb=m.s.cur.sb:=⟨_,rfl⟩
 rw[<-hsb] at HC hi
 have hwr:wrap64 ((i:Int)+(sb:Int))=((sb+i:Nat):Int):=by
  unfold wrap64
  omega
 obtain⟨k,hk⟩:∃ k,k=sb+i:=⟨_,rfl⟩
 rw[<-hk] at hwr
 have Hk:Hid (k=m.s.cur.sb+i/\k+1<=1000000000):=⟨by rw[hk,hsb],by omega⟩
 have HB:Hid (_/\_/\_):=⟨m1,a1,o1⟩
 have Hpv:Hid (_/\_):=⟨hpv,hwf⟩
 have HJ1:=zh j1
 clear h j1 m1 a1 o1 hpv hwf hcl hcu hvc hcur hsb hk hn hi
 go_enter Tryz.func48,Tryz.ntmps48
 go_wp2_with fail
 generalize w.alloc _=w1 at *
 refine cM (HI.o w1 kr) ?_
 rintro e w2 ⟨rfl,hw2⟩
 obtain⟨y0,y1⟩:=HC.o w2 hw2
 have HS:Hid (∃ g' l j,J X w2 g' (m.setS l) R/\Mv X w1 g w2 g'/\l=m.s.sA++List.replicate j default/\j<=k+1 - m.s.sA.length):=⟨g,m.s.sA,0,HJ1.o.kp hw2,Mv.zk hw2,by simp,by omega⟩
 clear hw2
 go_wp2_with fail
 clear y0 y1
 rw[hwr]
 clear hwr
 go_loopw [] (fun wr=>Hid (∃ g' l j,J X wr g' (m.setS l) R/\Mv X w1 g wr g'/\l=m.s.sA++List.replicate j default/\j<=k+1 - m.s.sA.length)) (fun wr=>k+1 - slotsN X wr)
 case atStart=>exact HS
 case round=>
  obtain⟨g',l,j,hJ,hm,hl,hj⟩:=hrel.out
  clear hrel
  have hsn:slotsN X wr=l.length:=hJ.slotsN
  have hsl:g'.s.sA.length=l.length:=hJ.slen
  obtain⟨q,cap,hvs,-⟩:=zah hJ.os
  rw[hsl] at hvs
  have c0:wr.cell? ⟨X.mm,31,none⟩=some (.slice q l.length cap):=by rw[<-hvs];exact hJ.box.rows.2.1
  have c1:=hJ.box.lt
  have hmb:=hJ.box
  unfold MBx at hmb
  by_cases hin:l.length<=k
  ·have h1:(l.length:Int)<=(k:Int):=by omega
   have hk3:Kp [] wr (wr.alloc (.cells #[.bool false,.int .i64 0] 67)):=kA
   have hJ3:=hJ.kp hk3
   have hb3:(wr.alloc (.cells #[.bool false,.int .i64 0] 67)).heap[wr.heap.size]? = some (.cells [.bool false,.int .i64 0].toArray 67):=zab wr _
   obtain⟨v4,w4,hrun,ho4,hg4,hv4⟩:=zgb zqv zo7 (by rfl) (by decide) (show(wr.alloc (.cells #[.bool false,.int .i64 0] 67)).ownsRow X.base 67 2 (.slice q l.length cap) l.length (zbv g'.s.sA) from by rw[<-hvs,<-hsl];exact hJ3.os) [.bool false,.int .i64 0] rfl (by simp[Value.oneCell']) _ hb3 (by have:=Hk.o;omega) (by decide) hJ3.bs 60
   have hK4:Kp g'.vs.ownBlock.toList wr w4:=(hk3.mono (by simp)).trans (Kp.of_grown hg4 (by intro k hk;rw[hvs];simpa using hk))
   have hs3:=hk3.size
   have hap:=hJ.appS (w4:=w4) (v':=v4) (by rw[hsl];exact ho4) hK4 (by
    rcases hv4 with e | e
    ·exact Or.inl (by rw[e,hvs])
    ·exact Or.inr ⟨_,e,hs3⟩) (by have:=Hk.o;show l.length+1<=_;omega)
   have hb4:=hJ.box.kp hK4 (hJ.ts.ne hmb (by decide))
   have d0:w4.cell? ⟨X.mm,31,none⟩=some (.slice q l.length cap):=by rw[<-hvs];exact hb4.rows.2.1
   have d1:=hb4.lt
   have d2:=hb4.frozen 31
   obtain⟨p4,c4,hv4',-⟩:=zah ho4
   subst hv4'
   have HQ:Hid ((∃ g' l' j,J X (w4.setCell ⟨X.mm,31,none⟩ (.slice p4 (l.length+1) c4)) g' (m.setS l') R/\Mv X w1 g (w4.setCell ⟨X.mm,31,none⟩ (.slice p4 (l.length+1) c4)) g'/\l'=m.s.sA++List.replicate j default/\j<=k+1 - m.s.sA.length)/\slotsN X (w4.setCell ⟨X.mm,31,none⟩ (.slice p4 (l.length+1) c4))=l.length+1/\slotsN X wr=l.length/\l.length<=k):=by
    refine⟨⟨_,l++[default],j+1,hap.1,hm.trans hap.2,?_,?_⟩,?_,hsn,hin⟩
    ·rw[hl,List.append_assoc,List.replicate_succ']
    ·rw[hl,lA,List.length_replicate] at hin
     omega
    ·have h9:=hap.1.slotsN
     rw[h9]
     show(l++[default]).length=_
     simp
   clear hJ hm hl hj hsl hvs hmb hk3 hJ3 hb3 ho4 hg4 hv4 hK4 hap hb4 hsn hin hs3
   go_wp2_with (at_builtin;refine wpList_plain rfl fun K hK=>?_;refine Lib.wp_append_run _ (Operand.tmp 24) (Operand.tmp 26) 60 60 rfl _ _ rfl rfl _ _ hrun ?_;refine hK _ _ ?_;clear hK K)
   go_roundw
   case rel=>exact HQ.o.1
   case measure=>
    have h9:=HQ.o.2
    omega
  ·have h1:¬ ((l.length:Int)<=(k:Int)):=by omega
   rcases zbg hJ.os with⟨hx1,hx2⟩ | ⟨gs,cap2,cur,hx1,hx2,hx3,hx4,hx5,hx6,hx7⟩
   ·omega
   ·rw[hsl] at hx1 hx4 hx7
    have hqq:=hvs.symm.trans hx1
    cases hqq
    obtain⟨mv,a1,o1⟩:=HB.o
    obtain⟨o1r,k1r⟩:=o1.mv hm
    have hbx:=k1r.trans a1
    have hgs:gs < wr.heap.size:=(sz hx3)
    have hsz0:k * 2 < cur.size:=by rw[hx6];omega
    have hsz1:k * 2+1 < cur.size:=by rw[hx6];omega
    have HF:Hid (∀ wx,Kp [] wr wx->wx.cell? ⟨X.mm,31,none⟩=some (.slice (some ⟨gs,0,none⟩) l.length cap)/\X.mm < wx.heap.size/\wx.cell? ⟨w.heap.size,0,none⟩=some (.bool vp)/\wx.cell? ⟨w.heap.size,1,none⟩=some (.int .i64 vn)/\w.heap.size < wx.heap.size):=fun wx hx=>by
     have hb:=hJ.box.kp hx (by simp)
     have e3:=(hx.block _ o1r.1 (by simp)).trans hbx
     refine⟨by rw[<-hvs];exact hb.rows.2.1,hb.lt,?_,?_,(sz e3)⟩
     ·simp[World.cell?,e3]
     ·simp[World.cell?,e3]
    have HG:Hid (∀ wx,Kp [] wr wx->wx.cell? ⟨gs,k * 2,none⟩=some (cur[k * 2]'hsz0)/\wx.cell? ⟨gs,k * 2+1,none⟩=some (cur[k * 2+1]'hsz1)/\wx.frozen? ⟨gs,k * 2,none⟩=false/\wx.frozen? ⟨gs,k * 2+1,none⟩=false/\gs < wx.heap.size):=fun wx hx=>by
     have e3:=(hx.block gs hgs (by simp)).trans hx3
     refine⟨?_,?_,?_,?_,(sz e3)⟩
     ·simp[World.cell?,e3,hsz0]
     ·simp[World.cell?,e3,hsz1]
     ·simp[World.frozen?,e3]
     ·simp[World.frozen?,e3]
    have Q:Hid (∃ g',J X ((wr.setCell ⟨gs,k * 2,none⟩ (.bool vp)).setCell ⟨gs,k * 2+1,none⟩ (.int .i64 vn)).drew g' {m with s:=m.s.store i v} R/\Mv X w g ((wr.setCell ⟨gs,k * 2,none⟩ (.bool vp)).setCell ⟨gs,k * 2+1,none⟩ (.int .i64 vn)).drew g'):=by
     have hd:Kp [] ((wr.setCell ⟨gs,k * 2,none⟩ (.bool vp)).setCell ⟨gs,k * 2+1,none⟩ (.int .i64 vn)) ((wr.setCell ⟨gs,k * 2,none⟩ (.bool vp)).setCell ⟨gs,k * 2+1,none⟩ (.int .i64 vn)).drew:=kr.drew
     have hs:=hJ.setSlot (gs:=gs) (cap:=cap) (by rw[hsl];exact hvs) k (by omega) ⟨vp,vn⟩ v Hpv.o.1 Hpv.o.2
     refine⟨_,?_,mv.trans (hm.trans (hs.2.trans (Mv.zk hd)))⟩
     have e9:=hs.1.kp hd
     rw[show((m.setS l).setS ((m.setS l).s.sA.set k v))={m with s:=m.s.store i v} from by
      unfold AM.setS St.store
      simp only
      rw[<-Hk.o.1,<-zty hj (by rw[<-hl];omega),<-hl]] at e9
     exact e9
    have hin2:k < l.length:=by omega
    have hin3:(k:Int) < (l.length:Int):=by omega
    clear hJ hm hl hj hsl hvs hmb hx1 hx2 hx3 hx4 hx5 hx6 hx7 mv a1 o1 o1r k1r hbx hgs hsn
    go_upto_region 4 with fail
    clear c0 c1 h1 hin
    refine zan 7 (C:=fun wx=>Kp [] wr wx) (by kernel_rfl) ?_
    refine qL 0 rfl ?_
    apply xI
    (intro wx hwx;go_simp <;> rfl)
    refine qL 1 rfl ?_
    apply xI
    (intro wx hwx;go_simp <;> rfl)
    refine qL 2 rfl ?_
    apply xI
    (intro wx hwx;go_simp <;> rfl)
    refine qL 3 rfl ?_
    apply xI
    (intro wx hwx;obtain⟨x0,x1,x2,x3,x4⟩:=HF.o wx hwx;go_simp <;> rfl)
    refine qL 4 rfl ?_
    apply xI
    (intro wx hwx;go_simp <;> rfl)
    refine qL 5 rfl ?_
    apply xI
    (intro wx hwx;obtain⟨x0,x1,x2,x3,x4⟩:=HF.o wx hwx;go_simp <;> rfl)
    refine qL 6 rfl ?_
    apply xI
    (intro wx hwx;go_simp <;> rfl)
    obtain⟨z0,z1,z2,z3,z4⟩:=HG.o _ (Kp.refl [] wr).drew
    obtain⟨r0,r1,r2,r3,r4⟩:=HG.o _ (Kp.refl [] wr)
    refine oL 7 (Kp.refl [] wr).drew rfl (fun K hK=>?_)
    go_simp
    refine hK _ _ ?_
    clear hK K
    refine zas (by kernel_rfl) (by kernel_rfl) ?_
    go_simp
    go_wp2_with fail
    exact bodyPost_end (v:=.tuple #[]) (results_none rfl _ _ _) rfl ⟨rfl,Q.o⟩
end
end Go.Proofs.YtkcmachfagcnaaaGreatDoor
