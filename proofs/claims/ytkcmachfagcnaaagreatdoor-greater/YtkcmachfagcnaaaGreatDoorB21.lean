/- Part of Greater. -/
import Derived.Test.YtkcmachfagcnaaaGreatDoorB20
set_option maxHeartbeats 8000000
set_option maxRecDepth 100000
namespace Go.Proofs.YtkcmachfagcnaaaGreatDoor
open Go.RowKit Go.Deep Go.IntWalk
open C12 (Cd Fn In zT)
section
variable{X:Fx}{w:World}{g:Pg}{m:AM}{R:Int->Int->Prop}
theorem zbl(h:J X w g m R)(a b:Cl)(hab:zI R a b)(kind:Int):∀ wx,Kp [] w wx->Calls Tryz.prog 75 #[.pointer (some ⟨X.mm,0,none⟩),.agg #[.bool a.p,.int .i64 a.n],.int .i64 kind] wx fun e w'=>e=.returned (.bool (thK m.D b kind))/\Kp [] w w':=by
 intro w0 hk0
 obtain⟨ap,an⟩:=a
 simp only
 have hk1:Kp [] w (w0.alloc (.cells #[.bool ap,.int .i64 an] 67)):=hk0.trans kA
 have hJ:=h.kp hk1
 have hbx:(w0.alloc (.cells #[.bool ap,.int .i64 an] 67)).heap[w0.heap.size]? = some (.cells #[.bool ap,.int .i64 an] 67):=zab w0 _
 have HF:Hid (∀ wx,Kp [] (w0.alloc (.cells #[.bool ap,.int .i64 an] 67)) wx->(wx.cell? ⟨w0.heap.size,0,none⟩=some (.bool ap)/\wx.cell? ⟨w0.heap.size,1,none⟩=some (.int .i64 an)/\w0.heap.size < wx.heap.size)/\wx.cell? ⟨X.mm,2,none⟩=some (.pointer (some ⟨X.hp,0,none⟩))/\X.mm < wx.heap.size):=fun wx hx=>by
  have e1:=(hx.block _ (sz hbx) (by simp)).trans hbx
  have hb1:=((hJ.box).kp hx (by simp)).heap
  exact⟨⟨by simp only[World.cell?,e1];rfl,by simp only[World.cell?,e1];rfl,(sz e1)⟩,hb1⟩
 have HK0:Hid (Kp [] (w0.alloc (.cells #[.bool ap,.int .i64 an] 67)) (w0.alloc (.cells #[.bool ap,.int .i64 an] 67)).drew):=kr.drew
 have HK1:=zh hk1
 cases ap with
 | false=>
  have e:thK m.D b kind=false:=by
   unfold thK
   rw[<-hab.1]
   rfl
  rw[e]
  clear h hab hk0 hk1 hJ hbx e
  go_enter Tryz.func75,Tryz.ntmps75
  go_upto_region 1 with fail
  generalize w0.alloc _=w1 at *
  generalize w0.heap.size=b0 at *
  obtain⟨⟨f0,f1,f2⟩,f3,f4⟩:=HF.o w1 kr
  go_quiet (fail)
  have Q:Hid _:=HK1.o.trans (kr.drewN nq)
  go_wp2
  exact bR (by simp[results,Tryz.results75,go_sem]) ⟨rfl,Q.o⟩
 | true=>
  obtain⟨hbp,t,u,ht,hu,hth⟩:=hJ.thing hab rfl
  have e:thK m.D b kind=decide (t.kind=kind):=by
   unfold thK
   rw[hbp,hu,hth.kind]
   rfl
  rw[e]
  simp only at ht
  have HKd:Hid (∀ wx,Kp [] (w0.alloc (.cells #[.bool true,.int .i64 an] 67)) wx->Calls Tryz.prog 96 #[.pointer (some ⟨X.hp,0,none⟩),.int .i64 an] wx fun e w'=>e=.returned (.int .i64 t.kind)/\Kp [] (w0.alloc (.cells #[.bool true,.int .i64 an] 67)) w'):=fun wx hx=>(hJ.pget wx hx an t ht).1
  generalize t.kind=tk at *
  clear h hab hk0 hk1 hJ hbx e ht hu hth hbp
  go_enter Tryz.func75,Tryz.ntmps75
  go_upto_region 1 with fail
  generalize w0.alloc _=w1 at *
  generalize w0.heap.size=b0 at *
  refine zao (C:=fun wx=>Kp [] w1 wx) (by kernel_rfl) ?_
  refine qA 0 rfl ?_
  apply xI
  (intro wx hwx;go_simp <;> rfl)
  refine qA 1 rfl ?_
  apply xI
  (intro wx hwx;obtain⟨⟨f0,f1,f2⟩,f3,f4⟩:=HF.o wx hwx;go_simp <;> rfl)
  refine qA 2 rfl ?_
  apply xI
  (intro wx hwx;go_simp <;> rfl)
  refine qA 3 rfl ?_
  apply xI
  (intro wx hwx;go_simp <;> rfl)
  refine qA 4 rfl ?_
  apply xI
  (intro wx hwx;go_simp <;> rfl)
  refine qA 5 rfl ?_
  apply xI
  (intro wx hwx;go_simp <;> rfl)
  refine qA 6 rfl ?_
  apply xI
  (intro wx hwx;obtain⟨⟨f0,f1,f2⟩,f3,f4⟩:=HF.o wx hwx;go_simp <;> rfl)
  refine qA 7 rfl ?_
  apply xI
  (intro wx hwx;go_simp <;> rfl)
  refine qA 8 rfl ?_
  apply xI
  (intro wx hwx;obtain⟨⟨f0,f1,f2⟩,f3,f4⟩:=HF.o wx hwx;go_simp <;> rfl)
  refine qA 10 rfl ?_
  apply xI
  (intro wx hwx;go_simp <;> rfl)
  refine oA 9 HK0.o rfl (fun K hK=>?_)
  go_simp
  refine cM (HKd.o _ HK0.o) ?_
  rintro e9 w9 ⟨rfl,hw9⟩
  refine hK _ _ ?_
  clear hK K
  refine oA 11 hw9 rfl (fun K hK=>?_)
  go_simp
  refine hK _ _ ?_
  clear hK K
  refine oA 12 hw9 rfl (fun K hK=>?_)
  go_simp
  refine hK _ _ ?_
  clear hK K
  refine oA 13 hw9 rfl (fun K hK=>?_)
  go_simp
  refine hK _ _ ?_
  clear hK K
  refine zag hw9 (by kernel_rfl) ?_
  have Q:Hid _:=HK1.o.trans hw9
  clear hw9
  go_simp
  go_wp2
  exact bodyPost_ret (by simp[results,Tryz.results75,go_sem];rfl) rfl ⟨rfl,Q.o⟩
end
end Go.Proofs.YtkcmachfagcnaaaGreatDoor
namespace Go.Proofs.YtkcmachfagcnaaaGreatDoor
open Go.RowKit Go.Deep
open C12 (Cd Fn In zT)
def fpt(X:Fx)(g:Pg):List Nat:=X.mm :: X.hp :: (g.v.ownBlock.toList++(g.vc.ownBlock.toList++(g.vs.ownBlock.toList++(g.vv.ownBlock.toList++(g.vt.ownBlock.toList++g.vo.ownBlock.toList)))))
structure Mv(X:Fx)(w:World)(g:Pg)(w':World)(g':Pg):Prop where
 kp:Kp (fpt X g) w w'
 fp:∀ k∈fpt X g',k∈fpt X g\/w.heap.size<=k
theorem Mv.zk{X:Fx}{w w':World}{g:Pg}(h:Kp [] w w'):Mv X w g w' g:=⟨h.mono (by simp),fun k hk=>Or.inl hk⟩
theorem Mv.refl(X:Fx)(w:World)(g:Pg):Mv X w g w g:=Mv.zk (Kp.refl _ _)
theorem Mv.trans{X:Fx}{w w1 w2:World}{g g1 g2:Pg}(h:Mv X w g w1 g1)(k:Mv X w1 g1 w2 g2):Mv X w g w2 g2:=
 ⟨h.kp.then k.kp h.fp,fun y hy=>by
  rcases k.fp y hy with h1 | h1
  ·exact h.fp y h1
  ·exact Or.inr (Nat.le_trans h.kp.size h1)⟩
def Off(X:Fx)(w:World)(g:Pg)(b:Nat):Prop:=b < w.heap.size/\b∉fpt X g
theorem Off.mv{X:Fx}{w w':World}{g g':Pg}{b:Nat}(h:Off X w g b)(hm:Mv X w g w' g'):Off X w' g' b/\w'.heap[b]? = w.heap[b]?:=
 ⟨⟨lL h.1 hm.kp.size,fun hb=>by
  rcases hm.fp b hb with h1 | h1
  ·exact h.2 h1
  ·have:=h.1;omega⟩,hm.kp.block b h.1 h.2⟩
def blkT(w:World)(v:Value)(t:TypeId):Prop:=∀ k,v.ownBlock=some k->k < w.heap.size/\∃ cur,w.heap[k]? = some (.cells cur t)
theorem blkT.off{w:World}{v:Value}{t:TypeId}(h:blkT w v t){mm:Nat}{A:Array Value}{tm:TypeId}(hm:w.heap[mm]? = some (.cells A tm))(ht:t≠tm){v':Value}{t':TypeId}(h':blkT w v' t')(hne:t≠t'):∀ k,v.ownBlock=some k->k∉mm :: v'.ownBlock.toList:=by
 intro k hk hx
 obtain⟨_,cur,hc⟩:=h k hk
 rcases List.mem_cons.1 hx with rfl | hx
 ·rw[hm] at hc
  cases hc
  exact ht rfl
 ·have hx':v'.ownBlock=some k:=by simpa using hx
  obtain⟨_,cur',hc'⟩:=h' k hx'
  rw[hc] at hc'
  cases hc'
  exact hne rfl
section
variable{X:Fx}{w:World}{g:Pg}{m:AM}{R:Int->Int->Prop}
theorem J.tc(h:J X w g m R):blkT w g.vc 69:=fun k hk=>(za8 h.oc k hk).2
theorem J.ts(h:J X w g m R):blkT w g.vs 67:=fun k hk=>(za8 h.os k hk).2
theorem J.tv(h:J X w g m R):blkT w g.vv 67:=fun k hk=>(za8 h.ov k hk).2
theorem J.tt(h:J X w g m R):blkT w g.vt 137:=fun k hk=>(za8 h.ot k hk).2
theorem J.to(h:J X w g m R):blkT w g.vo 5:=fun k hk=>(za8 h.oo k hk).2
theorem J.tw(h:J X w g m R):blkT w g.v 186:=fun _ hk=>⟨h.hh.own.lt hk,h.hh.own.obj hk⟩
theorem J.hpne(h:J X w g m R):X.hp≠X.mm:=fun e=>by
 have h1:=h.box
 have h2:=h.hh.box
 unfold MBx at h1
 rw[e,h1] at h2
 cases h2
theorem blkT.ne{v:Value}{t:TypeId}(h:blkT w v t){b:Nat}{A:Array Value}{tb:TypeId}(hb:w.heap[b]? = some (.cells A tb))(ht:t≠tb):b∉v.ownBlock.toList:=fun hx=>by
 have hx':v.ownBlock=some b:=by simpa using hx
 obtain⟨_,cur,hc⟩:=h b hx'
 rw[hb] at hc
 cases hc
 exact ht rfl
theorem J.fpt_lt(h:J X w g m R):∀ k∈fpt X g,k < w.heap.size:=by
 intro k hk
 unfold fpt at hk
 simp only[List.mem_cons,List.mem_append,Option.mem_toList] at hk
 rcases hk with rfl | rfl | hk | hk | hk | hk | hk | hk
 ·exact h.box.lt
 ·exact(sz h.hh.box)
 ·exact(h.tw k hk).1
 ·exact(h.tc k hk).1
 ·exact(h.ts k hk).1
 ·exact(h.tv k hk).1
 ·exact(h.tt k hk).1
 ·exact(h.to k hk).1
theorem J.off(h:J X w g m R){w':World}{b:Nat}(hb:w.heap.size<=b)(hl:b < w'.heap.size):Off X w' g b:=⟨hl,fun hx=>by have:=h.fpt_lt b hx;omega⟩
def sameB(w:World)(v v':Value):Prop:=v'.ownBlock=v.ownBlock\/∃ k,v'.ownBlock=some k/\w.heap.size<=k
theorem sameB.or{v v':Value}(h:sameB w v v'){k:Nat}(hk:v'.ownBlock=some k):v.ownBlock=some k\/w.heap.size<=k:=by
 rcases h with h | ⟨k',h1,h2⟩
 ·exact Or.inl (h ▸ hk)
 ·rw[hk] at h1
  cases h1
  exact Or.inr h2
theorem J.lbw(h:J X w g m R){Y:List Nat}{w':World}(hk:Kp Y w w')(hY:∀ y∈Y,y∈fpt X g):Below X.wc.heap.size X.wc w':=by
 refine h.bl.trans (hk.below h.bl.size (fun y hy=>?_))
 have:=hY y hy
 unfold fpt at this
 simp only[List.mem_cons,List.mem_append,Option.mem_toList] at this
 obtain⟨l1,l2,l3,l4⟩:=h.lb
 rcases this with rfl | rfl | hk | hk | hk | hk | hk | hk
 ·exact l1
 ·exact l2
 ·exact l4 _ hk
 ·exact Nat.le_trans l3 (za8 h.oc _ hk).1
 ·exact Nat.le_trans l3 (za8 h.os _ hk).1
 ·exact Nat.le_trans l3 (za8 h.ov _ hk).1
 ·exact Nat.le_trans l3 (za8 h.ot _ hk).1
 ·exact Nat.le_trans l3 (za8 h.oo _ hk).1
def Pg.setV(g:Pg)(v:Value)(l:List Cl):Pg:={g with vv:=v,s:={g.s with vA:=l}}
def Pg.setS(g:Pg)(v:Value)(l:List Cl):Pg:={g with vs:=v,s:={g.s with sA:=l}}
def Pg.setT(g:Pg)(v:Value)(l:List Tr):Pg:={g with vt:=v,s:={g.s with tA:=l}}
def Pg.setC(g:Pg)(v:Value)(l:List Cal):Pg:={g with vc:=v,s:={g.s with cA:=l}}
def AM.setV(m:AM)(l:List Cl):AM:={m with s:={m.s with vA:=l}}
def AM.setS(m:AM)(l:List Cl):AM:={m with s:={m.s with sA:=l}}
def AM.setT(m:AM)(l:List Tr):AM:={m with s:={m.s with tA:=l}}
def AM.setC(m:AM)(l:List Cal):AM:={m with s:={m.s with cA:=l}}
theorem za3:X.mm∈fpt X g:=by simp[fpt]
theorem J.vA(h:J X w g m R){w':World}{v:Value}{l l2:List Cl}(hb:MBx w' X.mm (mfOf X (g.setV v l) m))(ho:OwnC w' X.base v l)(hk:Kp (X.mm :: g.vv.ownBlock.toList) w w')(hf:sameB w g.vv v)(hi:zV R l l2)(hw:∀ c∈l,wfC c)(hn:l.length<=1000000000):J X w' (g.setV v l) (m.setV l2) R/\Mv X w g w' (g.setV v l):=by
 have hY:∀ y∈X.mm :: g.vv.ownBlock.toList,y∈fpt X g:=by
  intro y hy
  unfold fpt
  simp only[List.mem_cons,List.mem_append] at hy ⊢
  rcases hy with hy | hy
  ·exact Or.inl hy
  ·exact Or.inr (Or.inr (Or.inr (Or.inr (Or.inr (Or.inl hy)))))
 have hmb:=h.box
 unfold MBx at hmb
 have hsv:∀ k,g.vs.ownBlock=some k->k∉X.mm :: g.vv.ownBlock.toList:=fun k hk hx=>by
  rcases List.mem_cons.1 hx with rfl | hx
  ·exact absurd (by simpa using hk:g.vs.ownBlock=some X.mm) (fun e=>(h.ts.ne hmb (by decide)) (by simpa using e))
  ·exact h.dj k hk (by simpa using hx)
 refine⟨⟨hb,zaf h.oc hk (h.tc.off hmb (by decide) h.tv (by decide)),zaf h.os hk hsv,ho,zaf h.ot hk (h.tt.off hmb (by decide) h.tv (by decide)),zaf h.oo hk (h.to.off hmb (by decide) h.tv (by decide)),fun k e e'=>?_,h.hh.kp hk ?_ (h.tw.off hmb (by decide) h.tv (by decide)),h.cl,h.oth,?_,h.one,⟨h.st.cl,h.st.ca,h.st.sl,hi,h.st.tr⟩,h.th,h.lbw hk hY,h.lb,Nat.le_trans h.bs hk.size,h.ck,h.fb,h.nx,h.nd,h.len.1,h.len.2.1,hn,h.len.2.2.2⟩,hk.mono hY,fun k hkm=>?_⟩
 ·rcases hf.or e' with e2 | e2
  ·exact h.dj k e e2
  ·have:=(h.ts k e).1
   omega
 ·intro hx
  rcases List.mem_cons.1 hx with e | hx
  ·exact h.hpne e
  ·exact(h.tv.ne h.hh.box (by decide)) hx
 ·intro c hc
  have hc':=hc
  rcases List.mem_append.1 hc' with h1 | h1
  ·exact h.wfr c (by unfold St.roots;exact List.mem_append.2 (Or.inl h1))
  ·rcases List.mem_append.1 h1 with h1 | h1
   ·exact h.wfr c (by unfold St.roots;exact List.mem_append.2 (Or.inr (List.mem_append.2 (Or.inl h1))))
   ·exact hw c h1
 ·unfold fpt at hkm ⊢
  simp only[Pg.setV,List.mem_cons,List.mem_append,Option.mem_toList] at hkm ⊢
  rcases hkm with hkm | hkm | hkm | hkm | hkm | hkm | hkm | hkm
  all_goals first | exact Or.inl (by simp[hkm]) | skip
  rcases hf.or hkm with e2 | e2
  ·exact Or.inl (by simp[e2])
  ·exact Or.inr e2
theorem J.sA(h:J X w g m R){w':World}{v:Value}{l l2:List Cl}(hb:MBx w' X.mm (mfOf X (g.setS v l) m))(ho:OwnC w' X.base v l)(hk:Kp (X.mm :: g.vs.ownBlock.toList) w w')(hf:sameB w g.vs v)(hi:zV R l l2)(hw:∀ c∈l,wfC c)(hn:l.length<=1000000000):J X w' (g.setS v l) (m.setS l2) R/\Mv X w g w' (g.setS v l):=by
 have hY:∀ y∈X.mm :: g.vs.ownBlock.toList,y∈fpt X g:=by
  intro y hy
  unfold fpt
  simp only[List.mem_cons,List.mem_append] at hy ⊢
  rcases hy with hy | hy
  ·exact Or.inl hy
  ·exact Or.inr (Or.inr (Or.inr (Or.inr (Or.inl hy))))
 have hmb:=h.box
 unfold MBx at hmb
 have hsv:∀ k,g.vv.ownBlock=some k->k∉X.mm :: g.vs.ownBlock.toList:=fun k hk hx=>by
  rcases List.mem_cons.1 hx with rfl | hx
  ·exact absurd (by simpa using hk:g.vv.ownBlock=some X.mm) (fun e=>(h.tv.ne hmb (by decide)) (by simpa using e))
  ·exact h.dj k (by simpa using hx) hk
 refine⟨⟨hb,zaf h.oc hk (h.tc.off hmb (by decide) h.ts (by decide)),ho,zaf h.ov hk hsv,zaf h.ot hk (h.tt.off hmb (by decide) h.ts (by decide)),zaf h.oo hk (h.to.off hmb (by decide) h.ts (by decide)),fun k e e'=>?_,h.hh.kp hk ?_ (h.tw.off hmb (by decide) h.ts (by decide)),h.cl,h.oth,?_,h.one,⟨h.st.cl,h.st.ca,hi,h.st.va,h.st.tr⟩,h.th,h.lbw hk hY,h.lb,Nat.le_trans h.bs hk.size,h.ck,h.fb,h.nx,h.nd,h.len.1,hn,h.len.2.2⟩,hk.mono hY,fun k hkm=>?_⟩
 ·rcases hf.or e with e2 | e2
  ·exact h.dj k e2 e'
  ·have:=(h.tv k e').1
   omega
 ·intro hx
  rcases List.mem_cons.1 hx with e | hx
  ·exact h.hpne e
  ·exact(h.ts.ne h.hh.box (by decide)) hx
 ·intro c hc
  have hc':=hc
  rcases List.mem_append.1 hc' with h1 | h1
  ·exact h.wfr c (by unfold St.roots;exact List.mem_append.2 (Or.inl h1))
  ·rcases List.mem_append.1 h1 with h1 | h1
   ·exact hw c h1
   ·exact h.wfr c (by unfold St.roots;exact List.mem_append.2 (Or.inr (List.mem_append.2 (Or.inr h1))))
 ·unfold fpt at hkm ⊢
  simp only[Pg.setS,List.mem_cons,List.mem_append,Option.mem_toList] at hkm ⊢
  rcases hkm with hkm | hkm | hkm | hkm | hkm | hkm | hkm | hkm
  all_goals first | exact Or.inl (by simp[hkm]) | skip
  rcases hf.or hkm with e2 | e2
  ·exact Or.inl (by simp[e2])
  ·exact Or.inr e2
theorem J.tA(h:J X w g m R){w':World}{v:Value}{l:List Tr}(hb:MBx w' X.mm (mfOf X (g.setT v l) m))(ho:OwnT w' X.base v l)(hk:Kp (X.mm :: g.vt.ownBlock.toList) w w')(hf:sameB w g.vt v)(hn:l.length<=1000000000):J X w' (g.setT v l) (m.setT l) R/\Mv X w g w' (g.setT v l):=by
 have hY:∀ y∈X.mm :: g.vt.ownBlock.toList,y∈fpt X g:=by
  intro y hy
  unfold fpt
  simp only[List.mem_cons,List.mem_append] at hy ⊢
  rcases hy with hy | hy
  ·exact Or.inl hy
  ·exact Or.inr (Or.inr (Or.inr (Or.inr (Or.inr (Or.inr (Or.inl hy))))))
 have hmb:=h.box
 unfold MBx at hmb
 refine⟨⟨hb,zaf h.oc hk (h.tc.off hmb (by decide) h.tt (by decide)),zaf h.os hk (h.ts.off hmb (by decide) h.tt (by decide)),zaf h.ov hk (h.tv.off hmb (by decide) h.tt (by decide)),ho,zaf h.oo hk (h.to.off hmb (by decide) h.tt (by decide)),h.dj,h.hh.kp hk ?_ (h.tw.off hmb (by decide) h.tt (by decide)),h.cl,h.oth,h.wfr,h.one,⟨h.st.cl,h.st.ca,h.st.sl,h.st.va,rfl⟩,h.th,h.lbw hk hY,h.lb,Nat.le_trans h.bs hk.size,h.ck,h.fb,h.nx,h.nd,h.len.1,h.len.2.1,h.len.2.2.1,hn,h.len.2.2.2.2⟩,hk.mono hY,fun k hkm=>?_⟩
 ·intro hx
  rcases List.mem_cons.1 hx with e | hx
  ·exact h.hpne e
  ·exact(h.tt.ne h.hh.box (by decide)) hx
 ·unfold fpt at hkm ⊢
  simp only[Pg.setT,List.mem_cons,List.mem_append,Option.mem_toList] at hkm ⊢
  rcases hkm with hkm | hkm | hkm | hkm | hkm | hkm | hkm | hkm
  all_goals first | exact Or.inl (by simp[hkm]) | skip
  rcases hf.or hkm with e2 | e2
  ·exact Or.inl (by simp[e2])
  ·exact Or.inr e2
theorem J.cA(h:J X w g m R){w':World}{v:Value}{l l2:List Cal}(hb:MBx w' X.mm (mfOf X (g.setC v l) m))(ho:OwnK w' X.base v l)(hk:Kp (X.mm :: g.vc.ownBlock.toList) w w')(hf:sameB w g.vc v)(hl:l.length=l2.length)(hi:∀ i (hi:i < l.length) (hk:i < l2.length),CalIso R (l[i]'hi) (l2[i]'hk))(hw:∀ c∈zY l,wfC c)(hn:l.length<=500):J X w' (g.setC v l) (m.setC l2) R/\Mv X w g w' (g.setC v l):=by
 have hY:∀ y∈X.mm :: g.vc.ownBlock.toList,y∈fpt X g:=by
  intro y hy
  unfold fpt
  simp only[List.mem_cons,List.mem_append] at hy ⊢
  rcases hy with hy | hy
  ·exact Or.inl hy
  ·exact Or.inr (Or.inr (Or.inr (Or.inl hy)))
 have hmb:=h.box
 unfold MBx at hmb
 refine⟨⟨hb,ho,zaf h.os hk (h.ts.off hmb (by decide) h.tc (by decide)),zaf h.ov hk (h.tv.off hmb (by decide) h.tc (by decide)),zaf h.ot hk (h.tt.off hmb (by decide) h.tc (by decide)),zaf h.oo hk (h.to.off hmb (by decide) h.tc (by decide)),h.dj,h.hh.kp hk ?_ (h.tw.off hmb (by decide) h.tc (by decide)),h.cl,h.oth,?_,h.one,⟨hl,hi,h.st.sl,h.st.va,h.st.tr⟩,h.th,h.lbw hk hY,h.lb,Nat.le_trans h.bs hk.size,h.ck,h.fb,h.nx,h.nd,hn,h.len.2⟩,hk.mono hY,fun k hkm=>?_⟩
 ·intro hx
  rcases List.mem_cons.1 hx with e | hx
  ·exact h.hpne e
  ·exact(h.tc.ne h.hh.box (by decide)) hx
 ·intro c hc
  have hc':=hc
  rcases List.mem_append.1 hc' with h1 | h1
  ·exact hw c h1
  ·exact h.wfr c (by unfold St.roots;exact List.mem_append.2 (Or.inr h1))
 ·unfold fpt at hkm ⊢
  simp only[Pg.setC,List.mem_cons,List.mem_append,Option.mem_toList] at hkm ⊢
  rcases hkm with hkm | hkm | hkm | hkm | hkm | hkm | hkm | hkm
  all_goals first | exact Or.inl (by simp[hkm]) | skip
  rcases hf.or hkm with e2 | e2
  ·exact Or.inl (by simp[e2])
  ·exact Or.inr e2
theorem J.tells(h:J X w g m R){w':World}(k:Int)(nm:ByteArray)(st:Nat)(hb:MBx w' X.mm (mfOf X g {m with kind:=k,name:=nm,steps:=st}))(hk:Kp [X.mm] w w'):J X w' g {m with kind:=k,name:=nm,steps:=st} R/\Mv X w g w' g:=by
 have hmb:=h.box
 unfold MBx at hmb
 have hx:∀ (v:Value) (t:TypeId),blkT w v t->t≠64->∀ k,v.ownBlock=some k->k∉[X.mm]:=fun v t hv ht k hk hx=>by
  simp only[List.mem_singleton] at hx
  subst hx
  exact hv.ne hmb ht (by simpa using hk)
 refine⟨⟨hb,zaf h.oc hk (hx _ _ h.tc (by decide)),zaf h.os hk (hx _ _ h.ts (by decide)),zaf h.ov hk (hx _ _ h.tv (by decide)),zaf h.ot hk (hx _ _ h.tt (by decide)),zaf h.oo hk (hx _ _ h.to (by decide)),h.dj,h.hh.kp hk (by simpa using h.hpne) (hx _ _ h.tw (by decide)),h.cl,h.oth,h.wfr,h.one,h.st,h.th,h.lbw hk (by simp[fpt]),h.lb,Nat.le_trans h.bs hk.size,h.ck,h.fb,h.nx,h.nd,h.len⟩,hk.mono (by simp[fpt]),fun k hk=>Or.inl hk⟩
end
end Go.Proofs.YtkcmachfagcnaaaGreatDoor
namespace Go.Proofs.YtkcmachfagcnaaaGreatDoor
open Go.RowKit Go.Deep Go.IntWalk
open C12 (Cd Fn In zT)
section
variable{X:Fx}{w:World}{g:Pg}{m:AM}{R:Int->Int->Prop}
theorem J.kpo(h:J X w g m R){Y:List Nat}{w':World}(hk:Kp Y w w')(f:∀ k∈fpt X g,k∉Y)(hB:∀ y∈Y,X.wc.heap.size<=y):J X w' g m R:=
 ⟨h.box.kp hk (f _ (by simp[fpt])),zaf h.oc hk (fun k e=>f k (by simp[fpt,e])),zaf h.os hk (fun k e=>f k (by simp[fpt,e])),zaf h.ov hk (fun k e=>f k (by simp[fpt,e])),zaf h.ot hk (fun k e=>f k (by simp[fpt,e])),zaf h.oo hk (fun k e=>f k (by simp[fpt,e])),h.dj,h.hh.kp hk (f _ (by simp[fpt])) (fun k e=>f k (by simp[fpt,e])),h.cl,h.oth,h.wfr,h.one,h.st,h.th,h.bl.trans (hk.below h.bl.size hB),h.lb,Nat.le_trans h.bs hk.size,h.ck,h.fb,h.nx,h.nd,h.len⟩
theorem zdo(h:J X w g m R){a b:Cl}(hab:zI R a b){kind:Int}(hk:thK m.D b kind=true):a.p=true/\b.p=true/\∃ t u,zO g.first g.ts a.n=some t/\m.D b.n=some u/\ThIso R t u/\t.kind=kind:=by
 unfold thK at hk
 simp only[Bool.and_eq_true] at hk
 have hp:a.p=true:=by rw[hab.1];exact hk.1
 obtain⟨_,t,u,h1,h2,h3⟩:=h.thing hab hp
 rw[h2] at hk
 exact⟨hp,hk.1,t,u,h1,h2,h3,by rw[h3.kind];simpa using hk.2⟩
theorem zc0(h:J X w g m R)(a b:Cl)(hab:zI R a b)(tag:Int):∀ wx,Kp [] w wx->Calls Tryz.prog 104 #[.pointer (some ⟨X.mm,0,none⟩),.agg #[.bool a.p,.int .i64 a.n],.int .i64 tag] wx fun e w'=>e=.returned (.bool (isC m.D b tag))/\Kp [] w w':=by
 intro w0 hk0
 have HIs0:∀ wx,Kp [] w wx->_:=zbl h a b hab 3
 cases hb:thK m.D b 3 with
 | false=>
  have e:isC m.D b tag=false:=by unfold isC;rw[hb];rfl
  rw[e]
  rw[hb] at HIs0
  obtain⟨ap,an⟩:=a
  simp only at HIs0 ⊢
  have hk1:Kp [] w (w0.alloc (.cells #[.bool ap,.int .i64 an] 67)):=hk0.trans kA
  have hbx:(w0.alloc (.cells #[.bool ap,.int .i64 an] 67)).heap[w0.heap.size]? = some (.cells #[.bool ap,.int .i64 an] 67):=zab w0 _
  have HF:Hid (∀ wx,Kp [] (w0.alloc (.cells #[.bool ap,.int .i64 an] 67)) wx->(wx.cell? ⟨w0.heap.size,0,none⟩=some (.bool ap)/\wx.cell? ⟨w0.heap.size,1,none⟩=some (.int .i64 an)/\w0.heap.size < wx.heap.size)/\wx.cell? ⟨X.mm,2,none⟩=some (.pointer (some ⟨X.hp,0,none⟩))/\X.mm < wx.heap.size):=fun wx hx=>by
   have e1:=(hx.block _ (sz hbx) (by simp)).trans hbx
   have hb1:=((h.kp hk1).box.kp hx (by simp)).heap
   exact⟨⟨by simp only[World.cell?,e1];rfl,by simp only[World.cell?,e1];rfl,(sz e1)⟩,hb1⟩
  have HIs:Hid (∀ wx,Kp [] (w0.alloc (.cells #[.bool ap,.int .i64 an] 67)) wx->Calls Tryz.prog 75 #[.pointer (some ⟨X.mm,0,none⟩),.agg #[.bool ap,.int .i64 an],.int .i64 3] wx fun e w'=>e=.returned (.bool false)/\Kp [] (w0.alloc (.cells #[.bool ap,.int .i64 an] 67)) w'):=fun wx hx=>by
   have hz:=zbl (h.kp hk1) ⟨ap,an⟩ b hab 3 wx hx
   rw[hb] at hz
   exact hz
  have HK0:Hid (Kp [] (w0.alloc (.cells #[.bool ap,.int .i64 an] 67)) (w0.alloc (.cells #[.bool ap,.int .i64 an] 67)).drew):=kr.drew
  have HK1:=zh hk1
  clear h hab hk0 hk1 hbx e hb
  go_enter Tryz.func104,Tryz.ntmps104
  go_upto_region 1 with fail
  generalize w0.alloc _=w1 at *
  generalize w0.heap.size=b0 at *
  refine rQ HK0.o (fun ops Hops=>?_)
  iterate 4
   (refine wQ ?_;apply xI;(·intro wx hwx;obtain⟨⟨f0,f1,f2⟩,f3,f4⟩:=HF.o wx hwx;go_simp <;> first | with_reducible rfl | with_reducible exact⟨rfl,rfl⟩ | exact HIs.o _ hwx);try go_simp)
  iterate 9
   (refine wU ?_;go_simp)
  iterate 2
   (refine wQ ?_;apply xI;(·intro wx hwx;go_simp <;> first | rfl | exact⟨rfl,rfl⟩);try go_simp)
  refine wpQuiet_nil ?_
  clear Hops ops
  intro w9 hw9
  have Q:=zh (HK1.o.trans hw9)
  clear hw9
  go_wp2
  exact bR (by simp[results,Tryz.results104,go_sem]) ⟨rfl,Q.o⟩
 | true=>
  obtain⟨hap,hbp,t,u,ht,hu,hth,hkd⟩:=zdo h hab hb
  obtain⟨ap,an⟩:=a
  simp only at hap ht
  subst hap
  have e:isC m.D b tag=decide (t.tag=tag):=by
   unfold isC
   rw[hb,Bool.true_and]
   unfold tagA;rw[hu,hth.tag];rfl
  rw[e]
  simp only at HIs0 ⊢
  have hk1:Kp [] w (w0.alloc (.cells #[.bool true,.int .i64 an] 67)):=hk0.trans kA
  have hbx:(w0.alloc (.cells #[.bool true,.int .i64 an] 67)).heap[w0.heap.size]? = some (.cells #[.bool true,.int .i64 an] 67):=zab w0 _
  have HF:Hid (∀ wx,Kp [] (w0.alloc (.cells #[.bool true,.int .i64 an] 67)) wx->(wx.cell? ⟨w0.heap.size,0,none⟩=some (.bool true)/\wx.cell? ⟨w0.heap.size,1,none⟩=some (.int .i64 an)/\w0.heap.size < wx.heap.size)/\wx.cell? ⟨X.mm,2,none⟩=some (.pointer (some ⟨X.hp,0,none⟩))/\X.mm < wx.heap.size):=fun wx hx=>by
   have e1:=(hx.block _ (sz hbx) (by simp)).trans hbx
   have hb1:=((h.kp hk1).box.kp hx (by simp)).heap
   exact⟨⟨by simp only[World.cell?,e1];rfl,by simp only[World.cell?,e1];rfl,(sz e1)⟩,hb1⟩
  have HIs:Hid (∀ wx,Kp [] (w0.alloc (.cells #[.bool true,.int .i64 an] 67)) wx->Calls Tryz.prog 75 #[.pointer (some ⟨X.mm,0,none⟩),.agg #[.bool true,.int .i64 an],.int .i64 3] wx fun e w'=>e=.returned (.bool true)/\Kp [] (w0.alloc (.cells #[.bool true,.int .i64 an] 67)) w'):=fun wx hx=>by
   have hz:=zbl (h.kp hk1) ⟨true,an⟩ b hab 3 wx hx
   rw[hb] at hz
   exact hz
  have HKd:=zh (fun wx (hx:Kp [] (w0.alloc (.cells #[.bool true,.int .i64 an] 67)) wx)=>((h.kp hk1).pget wx hx an t ht).2.1)
  have HK0:Hid (Kp [] (w0.alloc (.cells #[.bool true,.int .i64 an] 67)) (w0.alloc (.cells #[.bool true,.int .i64 an] 67)).drew):=kr.drew
  have HK1:=zh hk1
  clear h hab hk0 hk1 hbx e hb ht hu hth hbp hkd
  generalize t.tag=tk at *
  go_enter Tryz.func104,Tryz.ntmps104
  go_upto_region 1 with fail
  generalize w0.alloc _=w1 at *
  generalize w0.heap.size=b0 at *
  refine rQ HK0.o (fun ops Hops=>?_)
  repeat
   (refine wQ ?_;apply xI;(·intro wx hwx;obtain⟨⟨f0,f1,f2⟩,f3,f4⟩:=HF.o wx hwx;go_simp <;> first | with_reducible rfl | with_reducible exact⟨rfl,rfl⟩ | with_reducible exact HIs.o _ hwx | with_reducible exact HKd.o _ hwx | exact HIs.o _ hwx | exact HKd.o _ hwx);try go_simp)
  refine wpQuiet_nil ?_
  clear Hops ops
  intro w9 hw9
  have Q:=zh (HK1.o.trans hw9)
  clear hw9
  go_wp2
  exact bodyPost_ret (by simp[results,Tryz.results104,go_sem];first | done | rfl | (rw[Bool.eq_iff_iff];simp;try omega)) rfl ⟨rfl,Q.o⟩
theorem zcz(h:J X w g m R)(a b:Cl)(hab:zI R a b)(n:Nat):∀ wx,Kp [] w wx->Calls Tryz.prog 122 #[.pointer (some ⟨X.mm,0,none⟩),.agg #[.bool a.p,.int .i64 a.n],.int .i64 n] wx fun e w'=>e=.returned (.bool (isT m.D b n))/\Kp [] w w':=by
 intro w0 hk0
 have HIs0:∀ wx,Kp [] w wx->_:=zbl h a b hab 0
 cases hb:thK m.D b 0 with
 | false=>
  have e:isT m.D b n=false:=by unfold isT;rw[hb];rfl
  rw[e]
  rw[hb] at HIs0
  obtain⟨ap,an⟩:=a
  simp only at HIs0 ⊢
  have hk1:Kp [] w (w0.alloc (.cells #[.bool ap,.int .i64 an] 67)):=hk0.trans kA
  have hbx:(w0.alloc (.cells #[.bool ap,.int .i64 an] 67)).heap[w0.heap.size]? = some (.cells #[.bool ap,.int .i64 an] 67):=zab w0 _
  have HF:Hid (∀ wx,Kp [] (w0.alloc (.cells #[.bool ap,.int .i64 an] 67)) wx->(wx.cell? ⟨w0.heap.size,0,none⟩=some (.bool ap)/\wx.cell? ⟨w0.heap.size,1,none⟩=some (.int .i64 an)/\w0.heap.size < wx.heap.size)/\wx.cell? ⟨X.mm,2,none⟩=some (.pointer (some ⟨X.hp,0,none⟩))/\X.mm < wx.heap.size):=fun wx hx=>by
   have e1:=(hx.block _ (sz hbx) (by simp)).trans hbx
   have hb1:=((h.kp hk1).box.kp hx (by simp)).heap
   exact⟨⟨by simp only[World.cell?,e1];rfl,by simp only[World.cell?,e1];rfl,(sz e1)⟩,hb1⟩
  have HIs:Hid (∀ wx,Kp [] (w0.alloc (.cells #[.bool ap,.int .i64 an] 67)) wx->Calls Tryz.prog 75 #[.pointer (some ⟨X.mm,0,none⟩),.agg #[.bool ap,.int .i64 an],.int .i64 0] wx fun e w'=>e=.returned (.bool false)/\Kp [] (w0.alloc (.cells #[.bool ap,.int .i64 an] 67)) w'):=fun wx hx=>by
   have hz:=zbl (h.kp hk1) ⟨ap,an⟩ b hab 0 wx hx
   rw[hb] at hz
   exact hz
  have HK0:Hid (Kp [] (w0.alloc (.cells #[.bool ap,.int .i64 an] 67)) (w0.alloc (.cells #[.bool ap,.int .i64 an] 67)).drew):=kr.drew
  have HK1:=zh hk1
  clear h hab hk0 hk1 hbx e hb
  go_enter Tryz.func122,Tryz.ntmps122
  go_upto_region 1 with fail
  generalize w0.alloc _=w1 at *
  generalize w0.heap.size=b0 at *
  refine rQ HK0.o (fun ops Hops=>?_)
  iterate 4
   (refine wQ ?_;apply xI;(·intro wx hwx;obtain⟨⟨f0,f1,f2⟩,f3,f4⟩:=HF.o wx hwx;go_simp <;> first | with_reducible rfl | with_reducible exact⟨rfl,rfl⟩ | exact HIs.o _ hwx);try go_simp)
  iterate 9
   (refine wU ?_;go_simp)
  iterate 2
   (refine wQ ?_;apply xI;(·intro wx hwx;go_simp <;> first | rfl | exact⟨rfl,rfl⟩);try go_simp)
  refine wpQuiet_nil ?_
  clear Hops ops
  intro w9 hw9
  have Q:=zh (HK1.o.trans hw9)
  clear hw9
  go_wp2
  exact bR (by simp[results,Tryz.results122,go_sem]) ⟨rfl,Q.o⟩
 | true=>
  obtain⟨hap,hbp,t,u,ht,hu,hth,hkd⟩:=zdo h hab hb
  obtain⟨ap,an⟩:=a
  simp only at hap ht
  subst hap
  have e:isT m.D b n=decide (t.fs.length=n):=by
   unfold isT
   rw[hb,Bool.true_and]
   unfold lenA;rw[hu,hth.fs.len];rfl
  rw[e]
  simp only at HIs0 ⊢
  have hk1:Kp [] w (w0.alloc (.cells #[.bool true,.int .i64 an] 67)):=hk0.trans kA
  have hbx:(w0.alloc (.cells #[.bool true,.int .i64 an] 67)).heap[w0.heap.size]? = some (.cells #[.bool true,.int .i64 an] 67):=zab w0 _
  have HF:Hid (∀ wx,Kp [] (w0.alloc (.cells #[.bool true,.int .i64 an] 67)) wx->(wx.cell? ⟨w0.heap.size,0,none⟩=some (.bool true)/\wx.cell? ⟨w0.heap.size,1,none⟩=some (.int .i64 an)/\w0.heap.size < wx.heap.size)/\wx.cell? ⟨X.mm,2,none⟩=some (.pointer (some ⟨X.hp,0,none⟩))/\X.mm < wx.heap.size):=fun wx hx=>by
   have e1:=(hx.block _ (sz hbx) (by simp)).trans hbx
   have hb1:=((h.kp hk1).box.kp hx (by simp)).heap
   exact⟨⟨by simp only[World.cell?,e1];rfl,by simp only[World.cell?,e1];rfl,(sz e1)⟩,hb1⟩
  have HIs:Hid (∀ wx,Kp [] (w0.alloc (.cells #[.bool true,.int .i64 an] 67)) wx->Calls Tryz.prog 75 #[.pointer (some ⟨X.mm,0,none⟩),.agg #[.bool true,.int .i64 an],.int .i64 0] wx fun e w'=>e=.returned (.bool true)/\Kp [] (w0.alloc (.cells #[.bool true,.int .i64 an] 67)) w'):=fun wx hx=>by
   have hz:=zbl (h.kp hk1) ⟨true,an⟩ b hab 0 wx hx
   rw[hb] at hz
   exact hz
  have HKd:=zh (fun wx (hx:Kp [] (w0.alloc (.cells #[.bool true,.int .i64 an] 67)) wx)=>((h.kp hk1).pget wx hx an t ht).2.2.1)
  have HK0:Hid (Kp [] (w0.alloc (.cells #[.bool true,.int .i64 an] 67)) (w0.alloc (.cells #[.bool true,.int .i64 an] 67)).drew):=kr.drew
  have HK1:=zh hk1
  clear h hab hk0 hk1 hbx e hb ht hu hth hbp hkd
  generalize t.fs.length=tk at *
  go_enter Tryz.func122,Tryz.ntmps122
  go_upto_region 1 with fail
  generalize w0.alloc _=w1 at *
  generalize w0.heap.size=b0 at *
  refine rQ HK0.o (fun ops Hops=>?_)
  repeat
   (refine wQ ?_;apply xI;(·intro wx hwx;obtain⟨⟨f0,f1,f2⟩,f3,f4⟩:=HF.o wx hwx;go_simp <;> first | with_reducible rfl | with_reducible exact⟨rfl,rfl⟩ | with_reducible exact HIs.o _ hwx | with_reducible exact HKd.o _ hwx | exact HIs.o _ hwx | exact HKd.o _ hwx);try go_simp)
  refine wpQuiet_nil ?_
  clear Hops ops
  intro w9 hw9
  have Q:=zh (HK1.o.trans hw9)
  clear hw9
  go_wp2
  exact bodyPost_ret (by simp[results,Tryz.results122,go_sem];first | done | rfl | (rw[Bool.eq_iff_iff];simp;try omega)) rfl ⟨rfl,Q.o⟩
theorem zf2(h:J X w g m R)(a b:Cl)(hab:zI R a b)(kind:Int)(i:Nat):∀ wx,Kp [] w wx->Calls Tryz.prog 51 #[.pointer (some ⟨X.mm,0,none⟩),.agg #[.bool a.p,.int .i64 a.n],.int .i64 kind,.int .i64 i] wx fun e w'=>e=.returned (.bool (hasF m.D b kind i))/\Kp [] w w':=by
 intro w0 hk0
 have HIs0:∀ wx,Kp [] w wx->_:=zbl h a b hab kind
 cases hb:thK m.D b kind with
 | false=>
  have e:hasF m.D b kind i=false:=by unfold hasF;rw[hb];rfl
  rw[e]
  rw[hb] at HIs0
  obtain⟨ap,an⟩:=a
  simp only at HIs0 ⊢
  have hk1:Kp [] w (w0.alloc (.cells #[.bool ap,.int .i64 an] 67)):=hk0.trans kA
  have hbx:(w0.alloc (.cells #[.bool ap,.int .i64 an] 67)).heap[w0.heap.size]? = some (.cells #[.bool ap,.int .i64 an] 67):=zab w0 _
  have HF:Hid (∀ wx,Kp [] (w0.alloc (.cells #[.bool ap,.int .i64 an] 67)) wx->(wx.cell? ⟨w0.heap.size,0,none⟩=some (.bool ap)/\wx.cell? ⟨w0.heap.size,1,none⟩=some (.int .i64 an)/\w0.heap.size < wx.heap.size)/\wx.cell? ⟨X.mm,2,none⟩=some (.pointer (some ⟨X.hp,0,none⟩))/\X.mm < wx.heap.size):=fun wx hx=>by
   have e1:=(hx.block _ (sz hbx) (by simp)).trans hbx
   have hb1:=((h.kp hk1).box.kp hx (by simp)).heap
   exact⟨⟨by simp only[World.cell?,e1];rfl,by simp only[World.cell?,e1];rfl,(sz e1)⟩,hb1⟩
  have HIs:Hid (∀ wx,Kp [] (w0.alloc (.cells #[.bool ap,.int .i64 an] 67)) wx->Calls Tryz.prog 75 #[.pointer (some ⟨X.mm,0,none⟩),.agg #[.bool ap,.int .i64 an],.int .i64 kind] wx fun e w'=>e=.returned (.bool false)/\Kp [] (w0.alloc (.cells #[.bool ap,.int .i64 an] 67)) w'):=fun wx hx=>by
   have hz:=zbl (h.kp hk1) ⟨ap,an⟩ b hab kind wx hx
   rw[hb] at hz
   exact hz
  have HK0:Hid (Kp [] (w0.alloc (.cells #[.bool ap,.int .i64 an] 67)) (w0.alloc (.cells #[.bool ap,.int .i64 an] 67)).drew):=kr.drew
  have HK1:=zh hk1
  clear h hab hk0 hk1 hbx e hb
  go_enter Tryz.func51,Tryz.ntmps51
  go_upto_region 1 with fail
  generalize w0.alloc _=w1 at *
  generalize w0.heap.size=b0 at *
  refine rQ HK0.o (fun ops Hops=>?_)
  iterate 5
   (refine wQ ?_;apply xI;(·intro wx hwx;obtain⟨⟨f0,f1,f2⟩,f3,f4⟩:=HF.o wx hwx;go_simp <;> first | with_reducible rfl | with_reducible exact⟨rfl,rfl⟩ | exact HIs.o _ hwx);try go_simp)
  iterate 9
   (refine wU ?_;go_simp)
  iterate 2
   (refine wQ ?_;apply xI;(·intro wx hwx;go_simp <;> first | rfl | exact⟨rfl,rfl⟩);try go_simp)
  refine wpQuiet_nil ?_
  clear Hops ops
  intro w9 hw9
  have Q:=zh (HK1.o.trans hw9)
  clear hw9
  go_wp2
  exact bR (by simp[results,Tryz.results51,go_sem]) ⟨rfl,Q.o⟩
 | true=>
  obtain⟨hap,hbp,t,u,ht,hu,hth,hkd⟩:=zdo h hab hb
  obtain⟨ap,an⟩:=a
  simp only at hap ht
  subst hap
  have e:hasF m.D b kind i=decide (i < t.fs.length):=by
   unfold hasF
   rw[hb,Bool.true_and]
   unfold lenA;rw[hu,hth.fs.len];rfl
  rw[e]
  simp only at HIs0 ⊢
  have hk1:Kp [] w (w0.alloc (.cells #[.bool true,.int .i64 an] 67)):=hk0.trans kA
  have hbx:(w0.alloc (.cells #[.bool true,.int .i64 an] 67)).heap[w0.heap.size]? = some (.cells #[.bool true,.int .i64 an] 67):=zab w0 _
  have HF:Hid (∀ wx,Kp [] (w0.alloc (.cells #[.bool true,.int .i64 an] 67)) wx->(wx.cell? ⟨w0.heap.size,0,none⟩=some (.bool true)/\wx.cell? ⟨w0.heap.size,1,none⟩=some (.int .i64 an)/\w0.heap.size < wx.heap.size)/\wx.cell? ⟨X.mm,2,none⟩=some (.pointer (some ⟨X.hp,0,none⟩))/\X.mm < wx.heap.size):=fun wx hx=>by
   have e1:=(hx.block _ (sz hbx) (by simp)).trans hbx
   have hb1:=((h.kp hk1).box.kp hx (by simp)).heap
   exact⟨⟨by simp only[World.cell?,e1];rfl,by simp only[World.cell?,e1];rfl,(sz e1)⟩,hb1⟩
  have HIs:Hid (∀ wx,Kp [] (w0.alloc (.cells #[.bool true,.int .i64 an] 67)) wx->Calls Tryz.prog 75 #[.pointer (some ⟨X.mm,0,none⟩),.agg #[.bool true,.int .i64 an],.int .i64 kind] wx fun e w'=>e=.returned (.bool true)/\Kp [] (w0.alloc (.cells #[.bool true,.int .i64 an] 67)) w'):=fun wx hx=>by
   have hz:=zbl (h.kp hk1) ⟨true,an⟩ b hab kind wx hx
   rw[hb] at hz
   exact hz
  have HKd:=zh (fun wx (hx:Kp [] (w0.alloc (.cells #[.bool true,.int .i64 an] 67)) wx)=>((h.kp hk1).pget wx hx an t ht).2.2.1)
  have HK0:Hid (Kp [] (w0.alloc (.cells #[.bool true,.int .i64 an] 67)) (w0.alloc (.cells #[.bool true,.int .i64 an] 67)).drew):=kr.drew
  have HK1:=zh hk1
  clear h hab hk0 hk1 hbx e hb ht hu hth hbp hkd
  generalize t.fs.length=tk at *
  go_enter Tryz.func51,Tryz.ntmps51
  go_upto_region 1 with fail
  generalize w0.alloc _=w1 at *
  generalize w0.heap.size=b0 at *
  refine rQ HK0.o (fun ops Hops=>?_)
  repeat
   (refine wQ ?_;apply xI;(·intro wx hwx;obtain⟨⟨f0,f1,f2⟩,f3,f4⟩:=HF.o wx hwx;go_simp <;> first | with_reducible rfl | with_reducible exact⟨rfl,rfl⟩ | with_reducible exact HIs.o _ hwx | with_reducible exact HKd.o _ hwx | exact HIs.o _ hwx | exact HKd.o _ hwx);try go_simp)
  refine wpQuiet_nil ?_
  clear Hops ops
  intro w9 hw9
  have Q:=zh (HK1.o.trans hw9)
  clear hw9
  go_wp2
  exact bodyPost_ret (by simp[results,Tryz.results51,go_sem];first | done | rfl | (rw[Bool.eq_iff_iff];simp;try omega)) rfl ⟨rfl,Q.o⟩
end
end Go.Proofs.YtkcmachfagcnaaaGreatDoor
