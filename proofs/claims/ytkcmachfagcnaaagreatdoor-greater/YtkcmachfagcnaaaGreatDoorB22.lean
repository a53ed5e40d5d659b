/- Part of Greater. -/
import Derived.Test.YtkcmachfagcnaaaGreatDoorB21
set_option maxHeartbeats 8000000
set_option maxRecDepth 100000
namespace Go.Proofs.YtkcmachfagcnaaaGreatDoor
open Go.RowKit Go.Deep Go.IntWalk
open C12 (Cd Fn In zT)
theorem zah{w:World}{base:Nat}{e:TypeId}{size:Nat}{v:Value}{n:Nat}{xs:List Value}(h:w.ownsRow base e size v n xs):∃ q cap,v=.slice q n cap/\n<=cap/\(q=none->n=0/\cap=0)/\∀ a,q=some a->a=⟨a.block,0,none⟩:=by
 rcases zbg h with⟨rfl,rfl⟩ | ⟨g,cap,cur,rfl,_,_,h4,_⟩
 ·exact⟨none,0,rfl,Nat.le_refl _,fun _=>⟨rfl,rfl⟩,fun a e=>by cases e⟩
 ·exact⟨_,cap,rfl,h4,(fun e=>by cases e),fun a e=>by cases e;rfl⟩
theorem ze9{w:World}{base:Nat}{e:TypeId}{size:Nat}{q:Option Addr}{n cap:Nat}{xs:List Value}(h:w.ownsRow base e size (.slice q n cap) n xs){j:Nat}(hj:j<=n):w.ownsRow base e size (.slice q j cap) j (xs.take (j * size))/\(Value.slice q j cap).ownBlock=(Value.slice q n cap).ownBlock:=by
 obtain⟨q',cap',hv,_,ho,hb⟩:=zpw h hj
 cases hv
 exact⟨ho,hb⟩
theorem zh8(q:Option Addr)(n c j:Nat)(hq:q=none->n=0/\c=0)(hz:∀ a,q=some a->a=⟨a.block,0,none⟩)(hj:j<=c)(wx:World):(Instr.slice 60 (.slice q n c) none (some (.int .i64 (j:Int))) none).run Tryz.prog wx=.ok (.slice q j c) wx:=by
 rw[run_slice_h (P:=Tryz.prog) wx 60 _ n c (by kernel_rfl) .i64 j (by omega) (by omega)]
 rw[show(sizeOf (Tryz.prog.elem 60)).run Tryz.prog wx=.ok 2 wx from by kernel_rfl]
 cases q with
 | none=>
  obtain⟨rfl,rfl⟩:=hq rfl
  obtain rfl:j=0:=by omega
  simp[Result.andThen,sliced]
 | some a=>
  rw[hz a rfl]
  simp[Result.andThen,sliced,zf7]
theorem zvh(q:Option Addr)(n c j:Nat)(hq:q=none->n=0/\c=0)(hz:∀ a,q=some a->a=⟨a.block,0,none⟩)(hj:j<=c)(wx:World):(Instr.slice 59 (.slice q n c) none (some (.int .i64 (j:Int))) none).run Tryz.prog wx=.ok (.slice q j c) wx:=by
 rw[run_slice_h (P:=Tryz.prog) wx 59 _ n c (by kernel_rfl) .i64 j (by omega) (by omega)]
 rw[show(sizeOf (Tryz.prog.elem 59)).run Tryz.prog wx=.ok 9 wx from by kernel_rfl]
 cases q with
 | none=>
  obtain⟨rfl,rfl⟩:=hq rfl
  obtain rfl:j=0:=by omega
  simp[Result.andThen,sliced]
 | some a=>
  rw[hz a rfl]
  simp[Result.andThen,sliced,zf7]
theorem zk1(q:Option Addr)(n c j:Nat)(hq:q=none->n=0/\c=0)(hz:∀ a,q=some a->a=⟨a.block,0,none⟩)(hj:j<=c)(wx:World):(Instr.slice 61 (.slice q n c) none (some (.int .i64 (j:Int))) none).run Tryz.prog wx=.ok (.slice q j c) wx:=by
 rw[run_slice_h (P:=Tryz.prog) wx 61 _ n c (by kernel_rfl) .i64 j (by omega) (by omega)]
 rw[show(sizeOf (Tryz.prog.elem 61)).run Tryz.prog wx=.ok 2 wx from by kernel_rfl]
 cases q with
 | none=>
  obtain⟨rfl,rfl⟩:=hq rfl
  obtain rfl:j=0:=by omega
  simp[Result.andThen,sliced]
 | some a=>
  rw[hz a rfl]
  simp[Result.andThen,sliced,zf7]
theorem zgb{w:World}{base:Nat}{e t:TypeId}{size bytes:Nat}{z:Value}(hi:(Tryz.prog.info? e).map (fun i=>(i.zero,i.size,i.bytes))=some (some z,size,bytes))(hu:Tryz.prog.underlying t=some (.slice e))(hzs:z.cells.size=size)(hsz:0 < size){v:Value}{n:Nat}{xs:List Value}(ho:w.ownsRow base e size v n xs)(cs:List Value)(hcs:cs.length=size)(h1:∀ u∈cs,u.oneCell'=true)(b:Nat)(hb:w.heap[b]? = some (.cells cs.toArray e))(hn:n<=1000000000)(hby:bytes<=100)(hbase:base<=w.heap.size)(ty:TypeId) :
  ∃ v' w',(Builtin.append_ #[t,t] ty #[v,.slice (some ⟨b,0,none⟩) 1 1]).run Tryz.prog w=.ok v' w'/\w'.ownsRow base e size v' (n+1) (xs++cs)/\w.grownBy w' v.ownBlock/\(v'.ownBlock=v.ownBlock\/v'.ownBlock=some w.heap.size):=by
 obtain⟨i0,hi0,hz0,hz1,hz2⟩:=zap hi
 have hnews:∀ j u,cs[j]? = some u->w.cell? (Addr.add ⟨b,0,none⟩ j)=some u:=fun j u hj=>by
  rw[zf7]
  simp only[World.cell?,hb,Nat.zero_add]
  simpa using hj
 have hbb:(n+1) * bytes<=140737488355328:=by
  have:=Nat.mul_le_mul (show n+1<=1000000001 by omega) hby
  omega
 obtain⟨v',w',k1,k2,k3,_,k5⟩:=run_append_own_at (P:=Tryz.prog) w base t ty e i0 z size bytes hu hi0 hz0 hz1 hz2 hzs hsz v n xs ho ⟨b,0,none⟩ 1 1 cs (by omega) hnews h1 (by unfold maxLen;omega) hbb hbase
 exact⟨v',w',k1,k2,k3,k5⟩
theorem zv9:(Tryz.prog.info? 69).map (fun i=>(i.zero,i.size,i.bytes))=some (some (.agg #[.int .i64 0,.bool false,.int .i64 0,.bool false,.int .i64 0,.int .i64 0,.int .i64 0,.int .i64 0,.int .i64 0]),9,72):=by kernel_rfl
theorem zu8:Tryz.prog.underlying 59=some (.slice 69):=by kernel_rfl
theorem ztn:(Tryz.prog.info? 137).map (fun i=>(i.zero,i.size,i.bytes))=some (some (.agg #[.int .i64 0,.int .i64 0]),2,16):=by kernel_rfl
theorem zu7:Tryz.prog.underlying 61=some (.slice 137):=by kernel_rfl
theorem zex:∀ (l:List Cl) (j:Nat),(zbv l).take (j * 2)=zbv (l.take j)
 | [],j=>by simp[zbv]
 | c :: l,0=>by simp[zbv]
 | c :: l,j+1=>by
  have h:=zex l j
  rw[show(j+1) * 2=j * 2+2 by omega]
  simp only[zbv,List.take_succ_cons,List.flatMap_cons] at h ⊢
  rw[<-h]
  rfl
section
variable{X:Fx}{w:World}{g:Pg}{m:AM}{R:Int->Int->Prop}
theorem J.vlen(h:J X w g m R):g.s.vA.length=m.s.vA.length:=h.st.va.len
theorem J.clen(h:J X w g m R):g.s.cA.length=m.s.cA.length:=h.st.cl
theorem J.slen(h:J X w g m R):g.s.sA.length=m.s.sA.length:=h.st.sl.len
theorem J.cur(h:J X w g m R)(hn:0 < m.s.cA.length):CalIso R g.s.cur m.s.cur:=by
 have e:=h.clen
 unfold St.cur
 rw[zcv hn,zcv (by omega)]
 simp only[e]
 exact h.st.ca _ (by omega) (by omega)
theorem J.top(h:J X w g m R)(k:Nat)(hk:k < m.s.vA.length):zI R (g.s.top k) (m.s.top k):=by
 have e:=h.vlen
 unfold St.top
 rw[gE (by omega),gE (by omega)]
 simp only[e,Option.getD_some]
 exact h.st.va.at_ _ (by omega) (by omega)
theorem J.topwf(h:J X w g m R)(k:Nat)(hk:k < m.s.vA.length):wfC (g.s.top k):=by
 have e:=h.vlen
 unfold St.top
 rw[gE (by omega)]
 exact h.wfr _ (by unfold St.roots;exact List.mem_append.2 (Or.inr (List.mem_append.2 (Or.inr (List.getElem_mem _)))))
theorem J.vwf(h:J X w g m R):∀ c∈g.s.vA,wfC c:=fun c hc=>h.wfr c (by unfold St.roots;exact List.mem_append.2 (Or.inr (List.mem_append.2 (Or.inr hc))))
theorem J.swf(h:J X w g m R):∀ c∈g.s.sA,wfC c:=fun c hc=>h.wfr c (by unfold St.roots;exact List.mem_append.2 (Or.inr (List.mem_append.2 (Or.inl hc))))
theorem J.cwf(h:J X w g m R):∀ c∈zY g.s.cA,wfC c:=fun c hc=>h.wfr c (by unfold St.roots;exact List.mem_append.2 (Or.inl hc))
structure VPost(X:Fx)(w:World)(g:Pg)(m':AM)(R:Int->Int->Prop)(w':World)(g':Pg):Prop where
 j:J X w' g' m' R
 mv:Mv X w g w' g'
 vc:g'.vc=g.vc
 cA:g'.s.cA=g.s.cA
theorem J.cutV(h:J X w g m R){q:Option Addr}{cap:Nat}(hv:g.vv=.slice q g.s.vA.length cap){j:Nat}(hj:j<=g.s.vA.length)(k:Nat):VPost X w g (m.setV (m.s.vA.take j)) R ((w.setCell ⟨X.mm,32,none⟩ (.slice q j cap)).drewN k) (g.setV (.slice q j cap) (g.s.vA.take j)):=by
 have ho:=h.ov
 unfold OwnC at ho
 rw[hv] at ho
 obtain⟨ho1,hb1⟩:=ze9 ho hj
 have hk:Kp [X.mm] w (w.setCell ⟨X.mm,32,none⟩ (.slice q j cap)):=Kp.setCell _ _ (by simp) _
 have hmb:=h.box
 unfold MBx at hmb
 have h2:=h.vA (w':=w.setCell ⟨X.mm,32,none⟩ (.slice q j cap)) (v:=.slice q j cap) (l:=g.s.vA.take j) (l2:=m.s.vA.take j) (h.box.setV _) (by
   refine zaf (X:=[X.mm]) ?_ hk (fun k e=>?_)
   ·rw[zex] at ho1
    rw[show(g.s.vA.take j).length=j by simp;omega]
    exact ho1
   ·rw[hb1,<-hv] at e
    simp only[List.mem_singleton]
    rintro rfl
    exact h.tv.ne hmb (by decide) (by simpa using e)) (hk.mono (by simp)) (Or.inl (by rw[hb1,<-hv])) (h.st.va.take j) (fun c hc=>h.vwf c (List.mem_of_mem_take hc)) (by have:=h.len.2.2.1;simp;omega)
 exact⟨h2.1.kp (kr.drewN k),h2.2.trans (Mv.zk (kr.drewN k)),rfl,rfl⟩
theorem J.appV(h:J X w g m R){w4:World}{v':Value}{p v:Cl}(ho:w4.ownsRow X.base 67 2 v' (g.s.vA.length+1) (zbv g.s.vA++[.bool p.p,.int .i64 p.n]))(hk:Kp g.vv.ownBlock.toList w w4)(hv:sameB w g.vv v')(hpv:zI R p v)(hwf:wfC p)(hn:m.s.vA.length+1<=1000000000)(k:Nat):VPost X w g {m with s:=m.s.put v} R ((w4.setCell ⟨X.mm,32,none⟩ v').drewN k) (g.setV v' (g.s.vA++[p])):=by
 have hmb:=h.box
 unfold MBx at hmb
 have hbx:=h.box.kp hk (h.tv.ne hmb (by decide))
 have hk5:Kp [X.mm] w4 (w4.setCell ⟨X.mm,32,none⟩ v'):=Kp.setCell _ _ (by simp) _
 have hkk:Kp (X.mm :: g.vv.ownBlock.toList) w (w4.setCell ⟨X.mm,32,none⟩ v'):=(hk.mono (fun x hx=>List.mem_cons_of_mem _ hx)).then hk5 (by simp)
 have ho5:OwnC w4 X.base v' (g.s.vA++[p]):=by
  unfold OwnC
  rw[zhz,lA]
  exact ho
 have h2:=h.vA (w':=w4.setCell ⟨X.mm,32,none⟩ v') (v:=v') (l:=g.s.vA++[p]) (l2:=m.s.vA++[v]) (hbx.setV v') (by
   refine zaf (X:=[X.mm]) ho5 hk5 (fun k e=>?_)
   simp only[List.mem_singleton]
   rintro rfl
   rcases hv.or e with e | e
   ·exact h.tv.ne hmb (by decide) (by simpa using e)
   ·have:=h.box.lt
    omega) hkk hv (h.st.va.snoc hpv) (fun c hc=>by
   rcases List.mem_append.1 hc with hc | hc
   ·exact h.vwf c hc
   ·rw[List.mem_singleton.1 hc]
    exact hwf) (by have:=h.vlen;simp;omega)
 exact⟨h2.1.kp (kr.drewN k),h2.2.trans (Mv.zk (kr.drewN k)),rfl,rfl⟩
theorem zba(h:J X w g m R)(n:Nat)(hn:n<=m.s.vA.length):Calls Tryz.prog 56 #[.pointer (some ⟨X.mm,0,none⟩),.int .i64 n] w fun e w'=>e=.returned (.tuple #[])/\∃ g',VPost X w g {m with s:=m.s.drop n} R w' g':=by
 have hl:=h.len.2.2.1
 rw[<-h.vlen] at hn
 obtain⟨q,cap,hv,hc,hq,hz⟩:=zah h.ov
 have hsl:=zh8 q g.s.vA.length cap (g.s.vA.length - n) hq hz (by omega)
 have c2:w.cell? ⟨X.mm,32,none⟩=some (.slice q g.s.vA.length cap):=by rw[<-hv];exact h.box.rows.2.2.1
 have cl:=h.box.lt
 have cf:=h.box.frozen 32
 have hw:IntKind.i64.wrap ((g.s.vA.length:Int) - (n:Int))=((g.s.vA.length - n:Nat):Int):=by rw[IntKind.wrap_i64];omega
 have Q:Hid (∃ g',VPost X w g {m with s:=m.s.drop n} R (w.setCell ⟨X.mm,32,none⟩ (.slice q (g.s.vA.length - n) cap)).drew g'):=by
  refine⟨g.setV (.slice q (g.s.vA.length - n) cap) (g.s.vA.take (g.s.vA.length - n)),?_⟩
  rw[show({m with s:=m.s.drop n} : AM)=m.setV (m.s.vA.take (g.s.vA.length - n)) by rw[h.vlen];rfl]
  exact h.cutV hv (by omega) 1
 clear h hv hc hq hz
 generalize g.s.vA.length - n=j at *
 go_enter Tryz.func56,Tryz.ntmps56
 go_region
 all_goals exact bodyPost_end (v:=.tuple #[]) (results_none rfl _ _ _) rfl ⟨rfl,Q.o⟩
theorem zgl(h:J X w g m R)(p v:Cl)(hpv:zI R p v)(hwf:wfC p)(hn:m.s.vA.length+1<=1000000000):Calls Tryz.prog 60 #[.pointer (some ⟨X.mm,0,none⟩),.agg #[.bool p.p,.int .i64 p.n]] w fun e w'=>e=.returned (.tuple #[])/\∃ g',VPost X w g {m with s:=m.s.put v} R w' g':=by
 obtain⟨ap,an⟩:=p
 simp only
 have hk1:Kp [] w (w.alloc (.cells #[.bool ap,.int .i64 an] 67)):=kA
 have hJ1:=h.kp hk1
 have hbx1:(w.alloc (.cells #[.bool ap,.int .i64 an] 67)).heap[w.heap.size]? = some (.cells #[.bool ap,.int .i64 an] 67):=zab w _
 have hoff:=h.off (w':=w.alloc (.cells #[.bool ap,.int .i64 an] 67)) (b:=w.heap.size) (Nat.le_refl _) (by simp)
 obtain⟨q,cap,hv,hc,hq,hz⟩:=zah h.ov
 have HM1:Hid (Mv X w g (w.alloc (.cells #[.bool ap,.int .i64 an] 67)) g):=Mv.zk hk1
 clear hq hz hc hk1
 go_enter Tryz.func60,Tryz.ntmps60
 go_upto_region 1 with fail
 have hsz:=hoff.1
 generalize w.alloc _=w2 at *
 generalize w.heap.size=b0 at *
 have hmb:=hJ1.box
 unfold MBx at hmb
 have Hbox:Hid (∀ wx,Kp g.vv.ownBlock.toList w2 wx->wx.cell? ⟨X.mm,32,none⟩=some (.slice q g.s.vA.length cap)/\X.mm < wx.heap.size/\wx.cell? ⟨b0,0,none⟩=some (.bool ap)/\wx.cell? ⟨b0,1,none⟩=some (.int .i64 an)/\b0 < wx.heap.size):=fun wx hx=>by
  have h1:=hJ1.box.kp hx (hJ1.tv.ne hmb (by decide))
  have h2:=(hx.block b0 hsz (fun e=>hoff.2 (by unfold fpt;simp only[List.mem_cons,List.mem_append];exact Or.inr (Or.inr (Or.inr (Or.inr (Or.inr (Or.inl e)))))))).trans hbx1
  exact⟨by rw[<-hv];exact h1.rows.2.2.1,h1.lt,by simp[World.cell?,h2],by simp[World.cell?,h2],(sz h2)⟩
 have HJ:=zh hJ1
 have Hv:=zh hv
 have Hiso:=zh hpv
 have Hwf:=zh hwf
 clear hJ1 hv hpv hwf h hbx1 hoff hmb
 refine zan 10 (C:=fun wx=>Kp g.vv.ownBlock.toList w2 wx) (by kernel_rfl) ?_
 refine qL 0 rfl ?_
 apply xI
 (intro wx hwx;go_simp <;> rfl)
 refine qL 1 rfl ?_
 apply xI
 (intro wx hwx;go_simp <;> rfl)
 refine qL 2 rfl ?_
 apply xI
 (intro wx hwx;go_simp <;> rfl)
 refine qL 3 rfl ?_
 apply xI
 (intro wx hwx;go_simp <;> rfl)
 refine qL 4 rfl ?_
 apply xI
 (intro wx hwx;obtain⟨f0,f1,f2,f3,f4⟩:=Hbox.o wx hwx;go_simp <;> rfl)
 refine qL 5 rfl ?_
 apply xI
 (intro wx hwx;obtain⟨f0,f1,f2,f3,f4⟩:=Hbox.o wx hwx;go_simp <;> rfl)
 refine oL 6 ((Kp.refl _ _).drew) rfl (fun K hK=>?_)
 go_simp
 refine hK _ _ ?_
 clear hK K
 have HK3:Hid (Kp [] w2 (w2.alloc (.cells #[.bool ap,.int .i64 an] 67)).drew):=kA.drew
 have hb3:(w2.alloc (.cells #[.bool ap,.int .i64 an] 67)).drew.heap[w2.heap.size]? = some (.cells [.bool ap,.int .i64 an].toArray 67):=zab w2 _
 generalize (w2.alloc (.cells #[.bool ap,.int .i64 an] 67)).drew=w3 at HK3 hb3 ⊢
 have hJ3:=HJ.o.kp HK3.o
 obtain⟨v4,w4,hrun,ho4,hg4,hv4⟩:=zgb zqv zo7 (by rfl) (by decide) (show w3.ownsRow X.base 67 2 (.slice q g.s.vA.length cap) g.s.vA.length (zbv g.s.vA) from by rw[<-Hv.o];exact hJ3.ov) [.bool ap,.int .i64 an] rfl (by simp[Value.oneCell']) _ hb3 (by have:=hJ3.vlen;omega) (by decide) hJ3.bs 60
 have HK4:Hid (Kp g.vv.ownBlock.toList w2 w4):=(HK3.o.mono (by simp)).trans (Kp.of_grown hg4 (by intro k hk;rw[Hv.o];simpa using hk))
 refine oL 7 (HK3.o.mono (by simp)) rfl (fun K hK=>?_)
 rw[if_pos (by kernel_rfl)]
 refine Lib.wp_append_run _ (Operand.tmp 8) (Operand.tmp 10) 60 60 rfl _ _ rfl rfl _ _ hrun ?_
 refine hK _ _ ?_
 clear hK K hrun
 have hs3:=HK3.o.size
 have Q:Hid (∀ k,∃ g',VPost X w g {m with s:=m.s.put v} R ((w4.setCell ⟨X.mm,32,none⟩ v4).drewN k) g'):=fun k=>by
  have hp:=HJ.o.appV (v:=v) (p:=⟨ap,an⟩) ho4 HK4.o (by
   rcases hv4 with e | e
   ·exact Or.inl (by rw[e,Hv.o])
   ·exact Or.inr ⟨_,e,hs3⟩) Hiso.o Hwf.o hn k
  exact⟨_,hp.j,HM1.o.trans hp.mv,hp.vc,hp.cA⟩
 obtain⟨f0,f1,f2,f3,f4⟩:=Hbox.o w4 HK4.o
 have f5:w4.frozen? ⟨X.mm,32,none⟩=false:=by
  have hmb:=HJ.o.box
  unfold MBx at hmb
  exact(HJ.o.box.kp HK4.o (HJ.o.tv.ne hmb (by decide))).frozen 32
 obtain⟨p4,c4,hv4',_⟩:=zah ho4
 subst hv4'
 clear ho4 hg4 hv4 hJ3 hb3
 refine oL 8 HK4.o rfl (fun K hK=>?_)
 go_simp
 refine hK _ _ ?_
 clear hK K
 refine oL 9 HK4.o rfl (fun K hK=>?_)
 go_simp
 refine hK _ _ ?_
 clear hK K
 refine oL 10 HK4.o rfl (fun K hK=>?_)
 go_simp
 refine hK _ _ ?_
 clear hK K
 refine zas (by kernel_rfl) (by kernel_rfl) ?_
 go_simp
 exact bodyPost_end (v:=.tuple #[]) (results_none rfl _ _ _) rfl ⟨rfl,(Q.o 0)⟩
end
theorem zg0{α:Type}(f:α->List Value)(k:Nat)(hf:∀ x,(f x).length=k):∀ (l:List α) (j:Nat),(l.flatMap f).take (j * k)=(l.take j).flatMap f
 | [],j=>by simp
 | c :: l,0=>by simp
 | c :: l,j+1=>by
  rw[List.take_succ_cons,List.flatMap_cons,List.flatMap_cons,<-zg0 f k hf l j,List.take_append,hf,List.take_of_length_le (by rw[hf,Nat.succ_mul];omega),show(j+1) * k - k=j * k by rw[Nat.succ_mul];omega]
theorem zks(c:Tr):(trV c).length=2:=rfl
section
variable{X:Fx}{w:World}{g:Pg}{m:AM}{R:Int->Int->Prop}
theorem J.cutS(h:J X w g m R){q:Option Addr}{cap:Nat}(hv:g.vs=.slice q g.s.sA.length cap){j:Nat}(hj:j<=g.s.sA.length)(k:Nat):J X ((w.setCell ⟨X.mm,31,none⟩ (.slice q j cap)).drewN k) (g.setS (.slice q j cap) (g.s.sA.take j)) (m.setS (m.s.sA.take j)) R/\Mv X w g ((w.setCell ⟨X.mm,31,none⟩ (.slice q j cap)).drewN k) (g.setS (.slice q j cap) (g.s.sA.take j)):=by
 have ho:=h.os
 unfold OwnC at ho
 rw[hv] at ho
 obtain⟨ho1,hb1⟩:=ze9 ho hj
 have hk:Kp [X.mm] w (w.setCell ⟨X.mm,31,none⟩ (.slice q j cap)):=Kp.setCell _ _ (by simp) _
 have hmb:=h.box
 unfold MBx at hmb
 have h2:=h.sA (w':=w.setCell ⟨X.mm,31,none⟩ (.slice q j cap)) (v:=.slice q j cap) (l:=g.s.sA.take j) (l2:=m.s.sA.take j) (h.box.setS _) (by
   refine zaf (X:=[X.mm]) ?_ hk (fun k e=>?_)
   ·rw[zex] at ho1
    rw[show(g.s.sA.take j).length=j by simp;omega]
    exact ho1
   ·rw[hb1,<-hv] at e
    simp only[List.mem_singleton]
    rintro rfl
    exact h.ts.ne hmb (by decide) (by simpa using e)) (hk.mono (by simp)) (Or.inl (by rw[hb1,<-hv])) (h.st.sl.take j) (fun c hc=>h.swf c (List.mem_of_mem_take hc)) (by have:=h.len.2.1;simp;omega)
 exact⟨h2.1.kp (kr.drewN k),h2.2.trans (Mv.zk (kr.drewN k))⟩
theorem J.cutT(h:J X w g m R){q:Option Addr}{cap:Nat}(hv:g.vt=.slice q g.s.tA.length cap){j:Nat}(hj:j<=g.s.tA.length)(k:Nat):J X ((w.setCell ⟨X.mm,33,none⟩ (.slice q j cap)).drewN k) (g.setT (.slice q j cap) (g.s.tA.take j)) (m.setT (g.s.tA.take j)) R/\Mv X w g ((w.setCell ⟨X.mm,33,none⟩ (.slice q j cap)).drewN k) (g.setT (.slice q j cap) (g.s.tA.take j)):=by
 have ho:=h.ot
 unfold OwnT at ho
 rw[hv] at ho
 obtain⟨ho1,hb1⟩:=ze9 ho hj
 have hk:Kp [X.mm] w (w.setCell ⟨X.mm,33,none⟩ (.slice q j cap)):=Kp.setCell _ _ (by simp) _
 have hmb:=h.box
 unfold MBx at hmb
 have h2:=h.tA (w':=w.setCell ⟨X.mm,33,none⟩ (.slice q j cap)) (v:=.slice q j cap) (l:=g.s.tA.take j) (h.box.setT _) (by
   refine zaf (X:=[X.mm]) ?_ hk (fun k e=>?_)
   ·rw[show zf0 g.s.tA=g.s.tA.flatMap trV from rfl,zg0 trV 2 zks] at ho1
    rw[show(g.s.tA.take j).length=j by simp;omega]
    exact ho1
   ·rw[hb1,<-hv] at e
    simp only[List.mem_singleton]
    rintro rfl
    exact h.tt.ne hmb (by decide) (by simpa using e)) (hk.mono (by simp)) (Or.inl (by rw[hb1,<-hv])) (by have:=h.len.2.2.2.1;simp;omega)
 exact⟨h2.1.kp (kr.drewN k),h2.2.trans (Mv.zk (kr.drewN k))⟩
theorem zk4{j:Nat} : ∀ {l:List Cal} {c:Cl},c∈zY (l.take j)->c∈zY l:=by
 induction j with
 | zero=>intro l c h;simp[zY] at h
 | succ j ih=>
  intro l c h
  cases l with
  | nil=>simp[zY] at h
  | cons x l=>
   simp only[List.take_succ_cons,zY,List.mem_cons] at h ⊢
   rcases h with h | h | h
   ·exact Or.inl h
   ·exact Or.inr (Or.inl h)
   ·exact Or.inr (Or.inr (ih h))
theorem J.cutC(h:J X w g m R){q:Option Addr}{cap:Nat}(hv:g.vc=.slice q g.s.cA.length cap){j:Nat}(hj:j<=g.s.cA.length)(k:Nat):J X ((w.setCell ⟨X.mm,30,none⟩ (.slice q j cap)).drewN k) (g.setC (.slice q j cap) (g.s.cA.take j)) (m.setC (m.s.cA.take j)) R/\Mv X w g ((w.setCell ⟨X.mm,30,none⟩ (.slice q j cap)).drewN k) (g.setC (.slice q j cap) (g.s.cA.take j)):=by
 have ho:=h.oc
 unfold OwnK at ho
 rw[hv] at ho
 obtain⟨ho1,hb1⟩:=ze9 ho hj
 have hk:Kp [X.mm] w (w.setCell ⟨X.mm,30,none⟩ (.slice q j cap)):=Kp.setCell _ _ (by simp) _
 have hmb:=h.box
 unfold MBx at hmb
 have h2:=h.cA (w':=w.setCell ⟨X.mm,30,none⟩ (.slice q j cap)) (v:=.slice q j cap) (l:=g.s.cA.take j) (l2:=m.s.cA.take j) (h.box.setC _) (by
   refine zaf (X:=[X.mm]) ?_ hk (fun k e=>?_)
   ·rw[show zd2 g.s.cA=g.s.cA.flatMap calV from rfl,zg0 calV 9 zcu] at ho1
    rw[show(g.s.cA.take j).length=j by simp;omega]
    exact ho1
   ·rw[hb1,<-hv] at e
    simp only[List.mem_singleton]
    rintro rfl
    exact h.tc.ne hmb (by decide) (by simpa using e)) (hk.mono (by simp)) (Or.inl (by rw[hb1,<-hv])) (by simp[h.clen]) (fun i hi hk=>by rw[List.getElem_take,List.getElem_take];exact h.st.ca i (by simp at hi;omega) (by simp at hk;omega)) (fun c hc=>h.cwf c (zk4 hc)) (by have:=h.len.1;simp;omega)
 exact⟨h2.1.kp (kr.drewN k),h2.2.trans (Mv.zk (kr.drewN k))⟩
theorem zgu(h:J X w g m R)(hn:0 < m.s.cA.length)(hsb:m.s.cur.sb<=m.s.sA.length)(hvb:m.s.cur.vb<=m.s.vA.length)(htb:m.s.cur.tb<=m.s.tA.length):Calls Tryz.prog 80 #[.pointer (some ⟨X.mm,0,none⟩)] w fun e w'=>e=.returned (.tuple #[])/\∃ g',J X w' g' {m with s:=m.s.leave} R/\Mv X w g w' g':=by
 have hcu:=h.cur hn
 have hl:=h.len
 have hcl:=h.clen
 have hvl:=h.vlen
 have hsl:=h.slen
 have htl:g.s.tA.length=m.s.tA.length:=by rw[h.st.tr]
 rw[<-hcu.sb,<-hsl] at hsb
 rw[<-hcu.vb,<-hvl] at hvb
 rw[<-hcu.tb,<-htl] at htb
 obtain⟨gc,capc,hvc,hcur⟩:=h.curAt (by omega)
 obtain⟨qs,cs,hvs,hcs,hqs,hzs⟩:=zah h.os
 obtain⟨qv,cv,hvv,hcv,hqv,hzv⟩:=zah h.ov
 obtain⟨qt,ct,hvt,hct,hqt,hzt⟩:=zah h.ot
 have HI:Hid _:=zbw h (by omega) (fun wx hx=>(hcur wx hx).1) w (Kp.refl [] w)
 obtain⟨N,hN⟩:∃ N,g.s.cA.length=N+1:=⟨g.s.cA.length - 1,by omega⟩
 obtain⟨q1,cc,hvcf,hcc,hqc,hzc⟩:=zah h.oc
 have hq1:q1=some ⟨gc,0,none⟩/\cc=capc:=by
  rw[hvc] at hvcf
  cases hvcf
  exact⟨rfl,rfl⟩
 obtain⟨rfl,rfl⟩:=hq1
 have s1:=zh8 qs g.s.sA.length cs g.s.cur.sb hqs hzs (by omega)
 have s2:=zh8 qv g.s.vA.length cv g.s.cur.vb hqv hzv (by omega)
 have s3:=zk1 qt g.s.tA.length ct g.s.cur.tb hqt hzt (by omega)
 have s4:=zvh (some ⟨gc,0,none⟩) g.s.cA.length cc N hqc hzc (by omega)
 have HF:Hid (∀ wx,Kp [] w wx->wx.cell? ⟨X.mm,31,none⟩=some (.slice qs g.s.sA.length cs)/\wx.cell? ⟨X.mm,32,none⟩=some (.slice qv g.s.vA.length cv)/\wx.cell? ⟨X.mm,33,none⟩=some (.slice qt g.s.tA.length ct)/\X.mm < wx.heap.size/\(∀ o,wx.frozen? ⟨X.mm,o,none⟩=false)/\wx.cell? ⟨gc,N * 9+6,none⟩=some (.int .i64 g.s.cur.sb)/\wx.cell? ⟨gc,N * 9+7,none⟩=some (.int .i64 g.s.cur.vb)/\wx.cell? ⟨gc,N * 9+8,none⟩=some (.int .i64 g.s.cur.tb)/\gc < wx.heap.size):=fun wx hx=>by
  have hb1:=h.box.kp hx (by simp)
  obtain⟨_,c1,c2⟩:=hcur wx hx
  rw[hN,Nat.add_sub_cancel] at c1
  exact⟨by rw[<-hvs];exact hb1.rows.2.1,by rw[<-hvv];exact hb1.rows.2.2.1,by rw[<-hvt];exact hb1.rows.2.2.2.1,hb1.lt,fun o=>hb1.frozen o,c1 6 (by omega),c1 7 (by omega),c1 8 (by omega),c2⟩
 have HJ:=zh h
 rw[hN] at HI s4
 simp only[Nat.add_sub_cancel] at HI
 clear hcur
 go_enter Tryz.func80,Tryz.ntmps80
 go_wp2_with fail
 refine cM HI.o ?_
 rintro e w1 ⟨rfl,hk1⟩
 obtain⟨f1,f2,f3,f4,f5,f6,f7,f8,f9⟩:=HF.o w1 hk1
 have z1:=f5 31
 have z2:=f5 32
 have z3:=f5 33
 have Hk1:=zh hk1
 have Hrows:Hid (_/\_/\_/\_):=⟨hvs,hvv,hvt,hvcf⟩
 have Hle:Hid (_/\_/\_):=⟨hsb,hvb,htb⟩
 have Hm:Hid (({m with s:=m.s.leave} : AM)=(((m.setS (m.s.sA.take g.s.cur.sb)).setV (m.s.vA.take g.s.cur.vb)).setT (g.s.tA.take g.s.cur.tb)).setC (m.s.cA.take N)):=by
  unfold Hid
  rw[hcu.sb,hcu.vb,hcu.tb,h.st.tr,show N=m.s.cA.length - 1 by omega,<-List.dropLast_eq_take]
  rfl
 have hwN:IntKind.i64.wrap (((N+1:Nat):Int) - 1)=(N:Int):=by rw[IntKind.wrap_i64];have:=hl.1;omega
 have HN:=zh hN
 clear hk1 h f5 hqs hzs hqv hzv hqt hzt hqc hzc hvs hvv hvt hvc hcs hcv hct hcc hl hcl hvl hsl htl hcu hvcf hN hsb hvb htb
 go_upto_region 1 with fail
 generalize g.s.cur.sb=sb at *
 generalize g.s.cur.vb=vb at *
 generalize g.s.cur.tb=tb at *
 generalize N * 9=co at *
 go_region
 clear f1 f2 f3 f4 f6 f7 f8 f9 z1 z2 z3 s1 s2 s3
 have HJ4:Hid (J X (((w1.setCell ⟨X.mm,31,none⟩ (.slice qs sb cs)).setCell ⟨X.mm,32,none⟩ (.slice qv vb cv)).setCell ⟨X.mm,33,none⟩ (.slice qt tb ct)).drew (((g.setS (.slice qs sb cs) (g.s.sA.take sb)).setV (.slice qv vb cv) (g.s.vA.take vb)).setT (.slice qt tb ct) (g.s.tA.take tb)) (((m.setS (m.s.sA.take sb)).setV (m.s.vA.take vb)).setT (g.s.tA.take tb)) R/\Mv X w g (((w1.setCell ⟨X.mm,31,none⟩ (.slice qs sb cs)).setCell ⟨X.mm,32,none⟩ (.slice qv vb cv)).setCell ⟨X.mm,33,none⟩ (.slice qt tb ct)).drew (((g.setS (.slice qs sb cs) (g.s.sA.take sb)).setV (.slice qv vb cv) (g.s.vA.take vb)).setT (.slice qt tb ct) (g.s.tA.take tb))):=by
  obtain⟨r1,r2,r3,r4⟩:=Hrows.o
  obtain⟨l1,l2,l3⟩:=Hle.o
  have p0:=HJ.o.kp Hk1.o
  have p1:=p0.cutS r1 l1 0
  have p2:=p1.1.cutV (q:=qv) (cap:=cv) r2 l2 0
  have p3:=p2.j.cutT (q:=qt) (cap:=ct) r3 l3 1
  exact⟨p3.1,(Mv.zk Hk1.o).trans (p1.2.trans (p2.mv.trans p3.2))⟩
 generalize (((w1.setCell ⟨X.mm,31,none⟩ (.slice qs sb cs)).setCell ⟨X.mm,32,none⟩ (.slice qv vb cv)).setCell ⟨X.mm,33,none⟩ (.slice qt tb ct)).drew=w4 at HJ4 ⊢
 have c1:w4.cell? ⟨X.mm,30,none⟩=some (.slice (some ⟨gc,0,none⟩) (N+1) cc):=by
  rw[<-HN.o,<-Hrows.o.2.2.2]
  exact HJ4.o.1.box.rows.1
 have c2:=HJ4.o.1.box.lt
 have c3:=HJ4.o.1.box.frozen 30
 have Q:Hid (∃ g',J X (w4.setCell ⟨X.mm,30,none⟩ (.slice (some ⟨gc,0,none⟩) N cc)).drew g' {m with s:=m.s.leave} R/\Mv X w g (w4.setCell ⟨X.mm,30,none⟩ (.slice (some ⟨gc,0,none⟩) N cc)).drew g'):=by
  have p4:=HJ4.o.1.cutC (q:=some ⟨gc,0,none⟩) (cap:=cc) Hrows.o.2.2.2 (j:=N) (by have:=HN.o;show N<=g.s.cA.length;omega) 1
  refine⟨_,?_,HJ4.o.2.trans p4.2⟩
  rw[Hm.o]
  exact p4.1
 generalize hN1:N+1=N1 at *
 clear hN1
 go_upto_region 2 with fail
 go_region
 all_goals exact bodyPost_end (v:=.tuple #[]) (results_none rfl _ _ _) rfl ⟨rfl,Q.o⟩
end
theorem zej:∀ (l k:List Cal),zY (l++k)=zY l++zY k
 | [],k=>rfl
 | c :: l,k=>by simp only[List.cons_append,zY,zej l k]
section
variable{X:Fx}{w:World}{g:Pg}{m:AM}{R:Int->Int->Prop}
theorem J.appC(h:J X w g m R){w4:World}{v':Value}{p v:Cal}(ho:w4.ownsRow X.base 69 9 v' (g.s.cA.length+1) (zd2 g.s.cA++calV p))(hk:Kp g.vc.ownBlock.toList w w4)(hv:sameB w g.vc v')(hpv:CalIso R p v)(hwf:wfC p.fn/\wfC p.arg)(hn:m.s.cA.length+1<=500)(k:Nat):J X ((w4.setCell ⟨X.mm,30,none⟩ v').drewN k) (g.setC v' (g.s.cA++[p])) (m.setC (m.s.cA++[v])) R/\Mv X w g ((w4.setCell ⟨X.mm,30,none⟩ v').drewN k) (g.setC v' (g.s.cA++[p])):=by
 have hmb:=h.box
 unfold MBx at hmb
 have hbx:=h.box.kp hk (h.tc.ne hmb (by decide))
 have hk5:Kp [X.mm] w4 (w4.setCell ⟨X.mm,30,none⟩ v'):=Kp.setCell _ _ (by simp) _
 have hkk:Kp (X.mm :: g.vc.ownBlock.toList) w (w4.setCell ⟨X.mm,30,none⟩ v'):=(hk.mono (fun x hx=>List.mem_cons_of_mem _ hx)).then hk5 (by simp)
 have hcl:=h.clen
 have ho5:OwnK w4 X.base v' (g.s.cA++[p]):=by
  unfold OwnK zd2
  rw[List.flatMap_append,lA]
  simp only[List.flatMap_cons,List.flatMap_nil,List.append_nil,List.length_cons,List.length_nil]
  exact ho
 have h2:=h.cA (w':=w4.setCell ⟨X.mm,30,none⟩ v') (v:=v') (l:=g.s.cA++[p]) (l2:=m.s.cA++[v]) (hbx.setC v') (by
   refine zaf (X:=[X.mm]) ho5 hk5 (fun k e=>?_)
   simp only[List.mem_singleton]
   rintro rfl
   rcases hv.or e with e | e
   ·exact h.tc.ne hmb (by decide) (by simpa using e)
   ·have:=h.box.lt
    omega) hkk hv (by simp[hcl]) (fun i hi hk=>by
   by_cases c:i < g.s.cA.length
   ·rw[List.getElem_append_left c,List.getElem_append_left (by omega)]
    exact h.st.ca i c (by omega)
   ·have e:i=g.s.cA.length:=by simp at hi;omega
    subst e
    simp[hcl]
    exact hpv) (fun c hc=>by
   rw[zej] at hc
   rcases List.mem_append.1 hc with hc | hc
   ·exact h.cwf c hc
   ·simp only[zY,List.mem_cons,List.not_mem_nil,or_false] at hc
    rcases hc with rfl | rfl
    ·exact hwf.1
    ·exact hwf.2) (by simp;omega)
 exact⟨h2.1.kp (kr.drewN k),h2.2.trans (Mv.zk (kr.drewN k))⟩
theorem zg2(h:J X w g m R)(num:Int)(p v a b:Cl)(o1 o2 o3 o4:Int)(hpv:zI R p v)(hwf:wfC p)(hab:zI R a b)(hwa:wfC a)(hn:m.s.cA.length+1<=500):Calls Tryz.prog 17 #[.pointer (some ⟨X.mm,0,none⟩),.agg #[.int .i64 num,.bool p.p,.int .i64 p.n,.bool a.p,.int .i64 a.n,.int .i64 o1,.int .i64 o2,.int .i64 o3,.int .i64 o4]] w fun e w'=>e=.returned (.tuple #[])/\∃ g',J X w' g' {m with s:=m.s.enter num v b} R/\Mv X w g w' g':=by
 obtain⟨fp,fn⟩:=p
 obtain⟨ap,an⟩:=a
 simp only
 have hl:=h.len
 obtain⟨qs,cs,hvs,_⟩:=zah h.os
 obtain⟨qv,cv,hvv,_⟩:=zah h.ov
 obtain⟨qt,ct,hvt,_⟩:=zah h.ot
 obtain⟨q,cap,hv,_⟩:=zah h.oc
 have hk1:Kp [] w (w.alloc (.cells #[.int .i64 num,.bool fp,.int .i64 fn,.bool ap,.int .i64 an,.int .i64 o1,.int .i64 o2,.int .i64 o3,.int .i64 o4] 69)):=kA
 have hJ1:=h.kp hk1
 have hbx1:(w.alloc (.cells #[.int .i64 num,.bool fp,.int .i64 fn,.bool ap,.int .i64 an,.int .i64 o1,.int .i64 o2,.int .i64 o3,.int .i64 o4] 69)).heap[w.heap.size]? = some (.cells #[.int .i64 num,.bool fp,.int .i64 fn,.bool ap,.int .i64 an,.int .i64 o1,.int .i64 o2,.int .i64 o3,.int .i64 o4] 69):=zab w _
 have hoff:=h.off (w':=w.alloc (.cells #[.int .i64 num,.bool fp,.int .i64 fn,.bool ap,.int .i64 an,.int .i64 o1,.int .i64 o2,.int .i64 o3,.int .i64 o4] 69)) (b:=w.heap.size) (Nat.le_refl _) (by simp)
 have HM1:Hid (Mv X w g (w.alloc (.cells #[.int .i64 num,.bool fp,.int .i64 fn,.bool ap,.int .i64 an,.int .i64 o1,.int .i64 o2,.int .i64 o3,.int .i64 o4] 69)) g):=Mv.zk hk1
 have Hb0:=zh h.fpt_lt
 have Hws:Hid (w.heap.size<=w.heap.size):=Nat.le_refl _
 clear hk1
 go_enter Tryz.func17,Tryz.ntmps17
 go_upto_region 1 with fail
 have hsz:=hoff.1
 generalize w.alloc _=w2 at *
 have c1:w2.cell? ⟨X.mm,31,none⟩=some (.slice qs g.s.sA.length cs):=by rw[<-hvs];exact hJ1.box.rows.2.1
 have c2:w2.cell? ⟨X.mm,32,none⟩=some (.slice qv g.s.vA.length cv):=by rw[<-hvv];exact hJ1.box.rows.2.2.1
 have c3:w2.cell? ⟨X.mm,33,none⟩=some (.slice qt g.s.tA.length ct):=by rw[<-hvt];exact hJ1.box.rows.2.2.2.1
 have c4:=hJ1.box.lt
 have z0:∀ o,w2.frozen? ⟨w.heap.size,o,none⟩=false:=fun o=>by simp[World.frozen?,hbx1]
 have z5:=z0 5
 have z6:=z0 6
 have z7:=z0 7
 have z8:=z0 8
 have d5:w2.cell? ⟨w.heap.size,5,none⟩=some (.int .i64 o1):=by simp[World.cell?,hbx1]
 have d6:w2.cell? ⟨w.heap.size,6,none⟩=some (.int .i64 o2):=by simp[World.cell?,hbx1]
 have d7:w2.cell? ⟨w.heap.size,7,none⟩=some (.int .i64 o3):=by simp[World.cell?,hbx1]
 have d8:w2.cell? ⟨w.heap.size,8,none⟩=some (.int .i64 o4):=by simp[World.cell?,hbx1]
 have hne:X.mm≠w.heap.size:=fun e=>by have:=h.box.lt;omega
 have HJ:=zh hJ1
 have Hbx1:=zh hbx1
 have Hoff:=zh hoff
 have Hrow:=zh hv
 have Hiso:Hid (_/\_):=⟨hpv,hab⟩
 have Hwf:Hid (_/\_):=⟨hwf,hwa⟩
 clear hJ1 hbx1 hoff z0 h hpv hwf hab hwa hl hvs hvv hvt hv
 generalize hb0:w.heap.size=b0 at *
 go_region
 clear c1 c2 c3 c4 z5 z6 z7 z8 d5 d6 d7 d8
 have hb5:((((w2.setCell ⟨b0,5,none⟩ (.int .i64 0)).setCell ⟨b0,6,none⟩ (.int .i64 g.s.sA.length)).setCell ⟨b0,7,none⟩ (.int .i64 g.s.vA.length)).setCell ⟨b0,8,none⟩ (.int .i64 g.s.tA.length)).drew.heap[b0]? = some (.cells #[.int .i64 num,.bool fp,.int .i64 fn,.bool ap,.int .i64 an,.int .i64 0,.int .i64 g.s.sA.length,.int .i64 g.s.vA.length,.int .i64 g.s.tA.length] 69):=by
  have e:=Hbx1.o
  simp[World.setCell,Array.getElem?_modify,e,World.drew]
 have hk5:Kp [b0] w2 ((((w2.setCell ⟨b0,5,none⟩ (.int .i64 0)).setCell ⟨b0,6,none⟩ (.int .i64 g.s.sA.length)).setCell ⟨b0,7,none⟩ (.int .i64 g.s.vA.length)).setCell ⟨b0,8,none⟩ (.int .i64 g.s.tA.length)).drew:=((((Kp.setCell _ _ (by simp) _).trans (Kp.setCell _ _ (by simp) _)).trans (Kp.setCell _ _ (by simp) _)).trans (Kp.setCell _ _ (by simp) _)).drew
 generalize ((((w2.setCell ⟨b0,5,none⟩ (.int .i64 0)).setCell ⟨b0,6,none⟩ (.int .i64 g.s.sA.length)).setCell ⟨b0,7,none⟩ (.int .i64 g.s.vA.length)).setCell ⟨b0,8,none⟩ (.int .i64 g.s.tA.length)).drew=w5 at hb5 hk5 ⊢
 have hx:∀ k∈fpt X g,k∉[b0]:=fun k hk e=>Hoff.o.2 (by rw[List.mem_singleton.1 e] at hk;exact hk)
 have hJ5:J X w5 g m R:=by
  have hJ2:=HJ.o
  have f:=hx
  refine⟨hJ2.box.kp hk5 (f _ (by simp[fpt])),zaf hJ2.oc hk5 (fun k e=>f k (by simp[fpt,e])),zaf hJ2.os hk5 (fun k e=>f k (by simp[fpt,e])),zaf hJ2.ov hk5 (fun k e=>f k (by simp[fpt,e])),zaf hJ2.ot hk5 (fun k e=>f k (by simp[fpt,e])),zaf hJ2.oo hk5 (fun k e=>f k (by simp[fpt,e])),hJ2.dj,hJ2.hh.kp hk5 (f _ (by simp[fpt])) (fun k e=>f k (by simp[fpt,e])),hJ2.cl,hJ2.oth,hJ2.wfr,hJ2.one,hJ2.st,hJ2.th,?_,hJ2.lb,Nat.le_trans hJ2.bs hk5.size,hJ2.ck,hJ2.fb,hJ2.nx,hJ2.nd,hJ2.len⟩
  exact hJ2.bl.trans (hk5.below hJ2.bl.size (fun x hx=>by
   rw[List.mem_singleton.1 hx]
   have h1:=hJ2.lb.1
   have h2:=Hb0.o X.mm (by simp[fpt])
   omega))
 have HM5:Hid (Mv X w g w5 g):=⟨HM1.o.kp.then hk5 (fun y hy=>Or.inr (by rw[List.mem_singleton.1 hy];omega)),fun k hk=>Or.inl hk⟩
 have hs5:=hk5.size
 have hoff5:Off X w5 g b0:=⟨by have:=Hoff.o.1;omega,Hoff.o.2⟩
 clear hk5 hsz hx
 have hmb:=hJ5.box
 unfold MBx at hmb
 have Hbox:Hid (∀ wx,Kp g.vc.ownBlock.toList w5 wx->wx.cell? ⟨X.mm,30,none⟩=some (.slice q g.s.cA.length cap)/\X.mm < wx.heap.size/\(wx.cell? ⟨b0,0,none⟩=some (.int .i64 num)/\wx.cell? ⟨b0,1,none⟩=some (.bool fp)/\wx.cell? ⟨b0,2,none⟩=some (.int .i64 fn)/\wx.cell? ⟨b0,3,none⟩=some (.bool ap)/\wx.cell? ⟨b0,4,none⟩=some (.int .i64 an)/\wx.cell? ⟨b0,5,none⟩=some (.int .i64 0)/\wx.cell? ⟨b0,6,none⟩=some (.int .i64 g.s.sA.length)/\wx.cell? ⟨b0,7,none⟩=some (.int .i64 g.s.vA.length)/\wx.cell? ⟨b0,8,none⟩=some (.int .i64 g.s.tA.length))/\b0 < wx.heap.size):=fun wx hx=>by
  have h1:=hJ5.box.kp hx (hJ5.tc.ne hmb (by decide))
  have h2:=(hx.block b0 hoff5.1 (fun e=>hoff5.2 (by unfold fpt;simp only[List.mem_cons,List.mem_append];exact Or.inr (Or.inr (Or.inr (Or.inl e)))))).trans hb5
  exact⟨by rw[<-Hrow.o];exact h1.rows.1,h1.lt,by refine⟨?_,?_,?_,?_,?_,?_,?_,?_,?_⟩ <;> simp[World.cell?,h2],(sz h2)⟩
 have HJ:=zh hJ5
 clear hJ5 hb5 hoff5 hmb
 go_upto_region 2 with fail
 refine zan 10 (C:=fun wx=>Kp g.vc.ownBlock.toList w5 wx) (by kernel_rfl) ?_
 refine qL 0 rfl ?_
 apply xI
 (intro wx hwx;go_simp <;> rfl)
 refine qL 1 rfl ?_
 apply xI
 (intro wx hwx;go_simp <;> rfl)
 refine qL 2 rfl ?_
 apply xI
 (intro wx hwx;go_simp <;> rfl)
 refine qL 3 rfl ?_
 apply xI
 (intro wx hwx;go_simp <;> rfl)
 refine qL 4 rfl ?_
 apply xI
 (intro wx hwx;obtain⟨f0,f1,⟨f2,f3,f4,f5,f6,f7,f8,f9,f10⟩,f11⟩:=Hbox.o wx hwx;go_simp <;> rfl)
 refine qL 5 rfl ?_
 apply xI
 (intro wx hwx;obtain⟨f0,f1,⟨f2,f3,f4,f5,f6,f7,f8,f9,f10⟩,f11⟩:=Hbox.o wx hwx;go_simp <;> rfl)
 refine oL 6 ((Kp.refl _ _).drew) rfl (fun K hK=>?_)
 go_simp
 refine hK _ _ ?_
 clear hK K
 have HK3:Hid (Kp [] w5 (w5.alloc (.cells #[.int .i64 num,.bool fp,.int .i64 fn,.bool ap,.int .i64 an,.int .i64 0,.int .i64 g.s.sA.length,.int .i64 g.s.vA.length,.int .i64 g.s.tA.length] 69)).drew):=kA.drew
 have hb3:(w5.alloc (.cells #[.int .i64 num,.bool fp,.int .i64 fn,.bool ap,.int .i64 an,.int .i64 0,.int .i64 g.s.sA.length,.int .i64 g.s.vA.length,.int .i64 g.s.tA.length] 69)).drew.heap[w5.heap.size]? = some (.cells (calV ⟨num,⟨fp,fn⟩,⟨ap,an⟩,0,g.s.sA.length,g.s.vA.length,g.s.tA.length⟩).toArray 69):=zab w5 _
 generalize (w5.alloc (.cells #[.int .i64 num,.bool fp,.int .i64 fn,.bool ap,.int .i64 an,.int .i64 0,.int .i64 g.s.sA.length,.int .i64 g.s.vA.length,.int .i64 g.s.tA.length] 69)).drew=w3 at HK3 hb3 ⊢
 have hJ3:=HJ.o.kp HK3.o
 obtain⟨v4,w4,hrun,ho4,hg4,hv4⟩:=zgb zv9 zu8 (by rfl) (by decide) (show w3.ownsRow X.base 69 9 (.slice q g.s.cA.length cap) g.s.cA.length (zd2 g.s.cA) from by rw[<-Hrow.o];exact hJ3.oc) (calV ⟨num,⟨fp,fn⟩,⟨ap,an⟩,0,g.s.sA.length,g.s.vA.length,g.s.tA.length⟩) rfl (by simp[Value.oneCell',calV]) _ hb3 (by have:=hJ3.clen;omega) (by decide) hJ3.bs 59
 have HK4:Hid (Kp g.vc.ownBlock.toList w5 w4):=(HK3.o.mono (by simp)).trans (Kp.of_grown hg4 (by intro k hk;rw[Hrow.o];simpa using hk))
 refine oL 7 (HK3.o.mono (by simp)) rfl (fun K hK=>?_)
 rw[if_pos (by kernel_rfl)]
 refine Lib.wp_append_run _ (Operand.tmp 27) (Operand.tmp 29) 59 59 rfl _ _ rfl rfl _ _ hrun ?_
 refine hK _ _ ?_
 clear hK K hrun
 have hs3:=HK3.o.size
 have Q:Hid (∀ k,∃ g',J X ((w4.setCell ⟨X.mm,30,none⟩ v4).drewN k) g' {m with s:=m.s.enter num v b} R/\Mv X w g ((w4.setCell ⟨X.mm,30,none⟩ v4).drewN k) g'):=fun k=>by
  have hp:=HJ.o.appC (p:=⟨num,⟨fp,fn⟩,⟨ap,an⟩,0,g.s.sA.length,g.s.vA.length,g.s.tA.length⟩) (v:=⟨num,v,b,0,m.s.sA.length,m.s.vA.length,m.s.tA.length⟩) ho4 HK4.o (by
   rcases hv4 with e | e
   ·exact Or.inl (by rw[e,Hrow.o])
   ·exact Or.inr ⟨_,e,hs3⟩) ⟨rfl,rfl,HJ.o.slen,HJ.o.vlen,by simp[HJ.o.st.tr],Hiso.o.1,Hiso.o.2⟩ Hwf.o hn k
  exact⟨_,hp.1,HM5.o.trans hp.2⟩
 obtain⟨f0,f1,-,f11⟩:=Hbox.o w4 HK4.o
 have f5:w4.frozen? ⟨X.mm,30,none⟩=false:=by
  have hmb:=HJ.o.box
  unfold MBx at hmb
  exact(HJ.o.box.kp HK4.o (HJ.o.tc.ne hmb (by decide))).frozen 30
 obtain⟨p4,c4,hv4',_⟩:=zah ho4
 subst hv4'
 clear ho4 hg4 hv4 hJ3 hb3
 refine oL 8 HK4.o rfl (fun K hK=>?_)
 go_simp
 refine hK _ _ ?_
 clear hK K
 refine oL 9 HK4.o rfl (fun K hK=>?_)
 go_simp
 refine hK _ _ ?_
 clear hK K
 refine oL 10 HK4.o rfl (fun K hK=>?_)
 go_simp
 refine hK _ _ ?_
 clear hK K
 refine zas (by kernel_rfl) (by kernel_rfl) ?_
 go_simp
 exact bodyPost_end (v:=.tuple #[]) (results_none rfl _ _ _) rfl ⟨rfl,(Q.o 0)⟩
end
end Go.Proofs.YtkcmachfagcnaaaGreatDoor
