/- Part of Greater. -/
import Derived.Test.YtkcmachfagcnaaaGreatDoorB24
set_option maxHeartbeats 8000000
set_option maxRecDepth 100000
namespace Go.Proofs.YtkcmachfagcnaaaGreatDoor
open Go.RowKit Go.Deep Go.IntWalk
open C12 (Cd Fn In zT)
section
variable{X:Fx}{w:World}{g:Pg}{m:AM}{R:Int->Int->Prop}
theorem CalIso.mono{R S:Int->Int->Prop}{c d:Cal}(h:CalIso R c d)(hS:∀ x y,R x y->S x y):CalIso S c d:=⟨h.num,h.pc,h.sb,h.vb,h.tb,h.fn.mono (fun _=>hS _ _),h.arg.mono (fun _=>hS _ _)⟩
theorem StIso.mono{R S:Int->Int->Prop}{p a:St}(h:StIso R p a)(hS:∀ x y,R x y->S x y):StIso S p a:=⟨h.cl,fun i hi hk=>(h.ca i hi hk).mono hS,h.sl.mono (fun _ _ _=>hS _ _),h.va.mono (fun _ _ _=>hS _ _),h.tr⟩
def AM.bump(m:AM):AM:={m with next:=m.next+1}
theorem J.made{R1:Int->Int->Prop}(h:J X w g m.bump R1){w':World}{v':Value}{kind tag:Int}{n:Nat}(hok:0<=kind/\kind<=4/\0<=tag/\tag<=65535)(hp:HpO w' X.hp X.cells g.first v' (encL (fun _=>0) g.first (g.ts++[⟨kind,tag,List.replicate n default⟩])))(hk:Kp ([X.hp]++g.v.ownBlock.toList) w w')(hf:v'.ownBlock=g.v.ownBlock\/∃ k,v'.ownBlock=some k/\w.heap.size<=k)(hy:∀ x y,R1 x y->y < m.next) :
  J X w' {g with v:=v',ts:=g.ts++[⟨kind,tag,List.replicate n default⟩]} (m.make ⟨kind,tag,List.replicate n default⟩) (fun a b=>R1 a b\/a=g.first+total g.ts/\b=m.next)/\Mv X w g w' {g with v:=v',ts:=g.ts++[⟨kind,tag,List.replicate n default⟩]}:=by
 have hmb:=h.box
 unfold MBx at hmb
 have hm:∀ (v:Value) (t:TypeId),blkT w v t->t≠91->t≠186->∀ k,v.ownBlock=some k->k∉[X.hp]++g.v.ownBlock.toList:=fun v t hv n1 n2 k hk hx=>by
  obtain⟨_,cur,hc⟩:=hv k hk
  rcases List.mem_append.1 hx with hx | hx
  ·rw[List.mem_singleton.1 hx,h.hh.box] at hc
   cases hc
   exact n1 rfl
  ·obtain⟨_,c2,h2⟩:=h.tw k (by simpa using hx)
   rw[h2] at hc
   cases hc
   exact n2 rfl
 have hmm:X.mm∉[X.hp]++g.v.ownBlock.toList:=fun hx=>by
  rcases List.mem_append.1 hx with hx | hx
  ·exact h.hpne (List.mem_singleton.1 hx).symm
  ·exact h.tw.ne hmb (by decide) hx
 have hY:∀ y∈[X.hp]++g.v.ownBlock.toList,y∈fpt X g:=fun y hy=>by
  unfold fpt
  simp only[List.mem_cons,List.mem_append,Option.mem_toList]
  rcases List.mem_append.1 hy with hy | hy
  ·exact Or.inr (Or.inl (List.mem_singleton.1 hy))
  ·exact Or.inr (Or.inr (Or.inl (by simpa using hy)))
 have hx0:∀ z,¬ R1 (g.first+total g.ts) z:=fun z hR=>by
  obtain⟨t,u,e,_⟩:=h.th _ _ hR
  rw[zwj _ _ _ (Int.le_refl _)] at e
  cases e
 have hy0:∀ z,¬ R1 z m.next:=fun z hR=>by
  have:=hy _ _ hR
  omega
 have hiso:=h.iso.made hx0 hy0 kind tag n
 have hdf:wfC (default:Cl):=zhu (by show(-9223372036854775808:Int)<=0/\(0:Int)<=9223372036854775807;omega)
 refine⟨⟨h.box.kp hk hmm,zaf h.oc hk (hm _ _ h.tc (by decide) (by decide)),zaf h.os hk (hm _ _ h.ts (by decide) (by decide)),zaf h.ov hk (hm _ _ h.tv (by decide) (by decide)),zaf h.ot hk (hm _ _ h.tt (by decide) (by decide)),zaf h.oo hk (hm _ _ h.to (by decide) (by decide)),h.dj,hp,?_,?_,h.wfr,hiso.one,h.st.mono (fun _ _=>Or.inl),?_,h.lbw hk hY,⟨h.lb.1,h.lb.2.1,h.lb.2.2.1,fun k hk=>?_⟩,Nat.le_trans h.bs hk.size,h.ck,h.fb,h.nx,fun y hy=>?_,h.len⟩,hk.mono hY,fun k hk=>?_⟩
 ·intro t ht y hy
  show(zO g.first (g.ts++[⟨kind,tag,List.replicate n default⟩]) y).isSome=true
  rw[zmv]
  rcases List.mem_append.1 ht with ht | ht
  ·have:=h.cl t ht y hy
   unfold upd
   split
   ·rfl
   ·exact this
  ·rw[List.mem_singleton.1 ht] at hy
   have:=List.eq_of_mem_replicate hy
   cases this
 ·intro t ht
  rcases List.mem_append.1 ht with ht | ht
  ·exact h.oth t ht
  ·rw[List.mem_singleton.1 ht]
   refine⟨hok.1,hok.2.1,hok.2.2.1,hok.2.2.2,fun c hc=>?_⟩
   rw[List.eq_of_mem_replicate hc]
   exact hdf
 ·intro x y hR
  have:=hiso.things x y hR
  rw[<-zmv] at this
  exact this
 ·rcases hf with e | ⟨k',e,hk'⟩
  ·exact h.lb.2.2.2 k (by rw[<-e];exact hk)
  ·have hk2:v'.ownBlock=some k:=hk
   rw[e] at hk2
   cases hk2
   exact Nat.le_trans h.bl.size hk'
 ·have hy2:(upd m.D m.next (some ⟨kind,tag,List.replicate n default⟩) y).isSome=true:=hy
  show y < m.next+1
  by_cases e:y=m.next
  ·omega
  ·rw[zav _ _ e] at hy2
   exact h.nd y hy2
 ·unfold fpt at hk ⊢
  simp only[List.mem_cons,List.mem_append,Option.mem_toList] at hk ⊢
  rcases hk with hk | hk | hk | hk | hk | hk | hk | hk
  ·exact Or.inl (Or.inl hk)
  ·exact Or.inl (Or.inr (Or.inl hk))
  ·rcases hf with e | ⟨g',e,hg'⟩
   ·exact Or.inl (Or.inr (Or.inr (Or.inl (by rw[<-e];exact hk))))
   ·rw[e] at hk
    cases hk
    exact Or.inr hg'
  ·exact Or.inl (Or.inr (Or.inr (Or.inr (Or.inl hk))))
  ·exact Or.inl (Or.inr (Or.inr (Or.inr (Or.inr (Or.inl hk)))))
  ·exact Or.inl (Or.inr (Or.inr (Or.inr (Or.inr (Or.inr (Or.inl hk))))))
  ·exact Or.inl (Or.inr (Or.inr (Or.inr (Or.inr (Or.inr (Or.inr (Or.inl hk)))))))
  ·exact Or.inl (Or.inr (Or.inr (Or.inr (Or.inr (Or.inr (Or.inr (Or.inr hk)))))))
inductive ThingPost(X:Fx)(w:World)(g:Pg)(m:AM)(kind tag:Int)(n:Nat):Ending->World->Prop
 | no (w':World) (g':Pg) (R':Int->Int->Prop) (hr:¬ room X.cells m.D m.s.roots n) (hJ:J X w' g' m.bump R') (hm:Mv X w g w' g'):ThingPost X w g m kind tag n (.returned (.tuple #[.agg #[.bool false,.int .i64 0],.int .i64 3])) w'
 | yes (w':World) (g':Pg) (R':Int->Int->Prop) (x:Int) (hr:room X.cells m.D m.s.roots n) (hJ:J X w' g' (m.make ⟨kind,tag,List.replicate n default⟩) R') (hx:R' x m.next) (hw:wfC ⟨true,x⟩) (hm:Mv X w g w' g'):ThingPost X w g m kind tag n (.returned (.tuple #[.agg #[.bool true,.int .i64 x],.int .i64 0])) w'
theorem zqi(h:J X w g m R)(hn:0 < g.s.cA.length)(hnx:m.next+1<=1000000000){kind tag:Int}{n:Nat}(hok:0<=kind/\kind<=4/\0<=tag/\tag<=65535/\n<=1000000){e:Ending}{w':World}(hp:MakePost w X.hp X.cells g.first g.v g.ts g.s.roots (J.spots g) kind tag n e w'):(e=.returned (.tuple #[.int .i64 0,.int .i64 22])/\¬ room X.cells m.D m.s.roots n/\∃ g' R',J X w' g' m.bump R'/\Mv X w g w' g')\/∃ x,e=.returned (.tuple #[.int .i64 x,.int .i64 0])/\room X.cells m.D m.s.roots n/\wfC ⟨true,x⟩/\∃ g' R',J X w' g' (m.make ⟨kind,tag,List.replicate n default⟩) R'/\R' x m.next/\Mv X w g w' g':=by
 obtain⟨V,hV1,hV2⟩:=znm h.cl h.rok
 cases hp with
 | arg hb=>omega
 | mem k hn2 hk hV w1 first1 v1 ts1 rs1 hg=>
  obtain rfl:n=k:=by omega
  left
  obtain⟨R1,hJ1,hm1,_⟩:=h.gc hn hg m.bump rfl hnx
  refine⟨rfl,fun hr=>?_,_,_,hJ1,hm1⟩
  have:=(zl4 h.iso hV1 hV2).1 hr
  have:=hV V hV1 hV2
  omega
 | new k hn2 hk hV w1 w2 first1 v1 v2 ts1 rs1 hg hp hk2 hf=>
  obtain rfl:n=k:=by omega
  right
  obtain⟨R1,hJ1,hm1,hR1⟩:=h.gc hn hg m.bump rfl hnx
  obtain⟨hJ2,hm2⟩:=hJ1.made ⟨hk.1,hk.2.1,hk.2.2.1,hk.2.2.2.1⟩ hp hk2 hf (fun x y hR=>by
   obtain⟨z,hz⟩:=hR1 x y hR
   obtain⟨t,u,_,e2,_⟩:=h.th z y hz
   exact h.nd y (by rw[e2];rfl))
  refine⟨_,rfl,(zl4 h.iso hV1 hV2).2 (hV V hV1 hV2),?_,_,_,hJ2,Or.inr ⟨rfl,rfl⟩,hm1.trans hm2⟩
  have h1:=hp.pos
  have h2:=hp.len
  rw[zak,zd4] at h2
  unfold wfC
  exact zhu (by simp only;omega)
theorem J.setOff(h:J X w g m R){b:Nat}(ho:Off X w g b)(hb:X.wc.heap.size<=b)(o:Nat)(u:Value):J X (w.setCell ⟨b,o,none⟩ u) g m R/\Off X (w.setCell ⟨b,o,none⟩ u) g b:=by
 have hk:Kp [b] w (w.setCell ⟨b,o,none⟩ u):=Kp.setCell _ _ (by simp) _
 exact⟨h.kpo hk (fun k hk e=>ho.2 (by rw[List.mem_singleton.1 e] at hk;exact hk)) (fun y hy=>by rw[List.mem_singleton.1 hy];exact hb),lL ho.1 hk.size,ho.2⟩
theorem Mv.setOff{w1:World}{g1:Pg}(h:Mv X w g w1 g1){b:Nat}(hb:w.heap.size<=b)(o:Nat)(u:Value):Mv X w g (w1.setCell ⟨b,o,none⟩ u) g1:=
 ⟨h.kp.then (Kp.setCell (X:=[b]) w1 ⟨b,o,none⟩ (by simp) u) (fun y hy=>Or.inr (by rw[List.mem_singleton.1 hy];exact hb)),h.fp⟩
theorem zae{w1:World}{b:Nat}{c0 c1:Value}(hb:w1.heap[b]? = some (.cells #[c0,c1] 67))(u1 u2:Value):((w1.setCell ⟨b,0,none⟩ u1).setCell ⟨b,1,none⟩ u2).heap[b]? = some (.cells #[u1,u2] 67):=by
 simp[World.setCell,Array.getElem?_modify,hb]
theorem zaa{w1:World}{b:Nat}{c0 c1:Value}(hb:w1.heap[b]? = some (.cells #[c0,c1] 67)):w1.cell? ⟨b,0,none⟩=some c0/\w1.cell? ⟨b,1,none⟩=some c1/\w1.frozen? ⟨b,0,none⟩=false/\w1.frozen? ⟨b,1,none⟩=false/\b < w1.heap.size:=by
 refine⟨?_,?_,?_,?_,(sz hb)⟩ <;> simp[World.cell?,World.frozen?,hb]
theorem J.box2(h:J X w g m R){b:Nat}(ho:Off X w g b)(hb:X.wc.heap.size<=b)(u1 u2:Value):J X ((w.setCell ⟨b,0,none⟩ u1).setCell ⟨b,1,none⟩ u2) g m R:=by
 obtain⟨h1,h2⟩:=h.setOff ho hb 0 u1
 exact(h1.setOff h2 hb 1 u2).1
theorem zgt(h:J X w g m R)(hn:0 < m.s.cA.length)(hnx:m.next+1<=1000000000)(kind tag:Int)(n:Nat)(hok:0<=kind/\kind<=4/\0<=tag/\tag<=65535/\n<=1000000):Calls Tryz.prog 87 #[.pointer (some ⟨X.mm,0,none⟩),.int .i64 kind,.int .i64 tag,.int .i64 n] w fun e w'=>ThingPost X w g m kind tag n e w':=by
 have hk1:Kp [] w (w.alloc (.cells #[.bool false,.int .i64 0] 67)):=kA
 have hJ1:=h.kp hk1
 have hbx:(w.alloc (.cells #[.bool false,.int .i64 0] 67)).heap[w.heap.size]? = some (.cells #[.bool false,.int .i64 0] 67):=zab w _
 have hoff:=h.off (w':=w.alloc (.cells #[.bool false,.int .i64 0] 67)) (b:=w.heap.size) (Nat.le_refl _) (by simp)
 have hcl:=h.clen
 have hfb:g.first<=8000000000000000000:=by
  have:=h.fb
  omega
 have HM:Hid _:=ztb (w.alloc (.cells #[.bool false,.int .i64 0] 67)) X.hp X.cells g.first g.v g.ts hJ1.hh hJ1.ck hfb hJ1.cl g.s.roots hJ1.rok (J.spots g) X.mm (mfOf X g m).arr hJ1.mr hJ1.box hJ1.rw kind tag (n:Int)
 have Hmp:Hid (∀ e w',MakePost (w.alloc (.cells #[.bool false,.int .i64 0] 67)) X.hp X.cells g.first g.v g.ts g.s.roots (J.spots g) kind tag n e w'->_):=fun e w' q=>zqi hJ1 (by omega) hnx hok q
 have f3:=hJ1.box.heap.1
 have f4:=hJ1.box.lt
 have Hoff:=zh hoff
 have Hbx:=zh hbx
 have Hm1:Hid (Mv X w g (w.alloc (.cells #[.bool false,.int .i64 0] 67)) g):=Mv.zk hk1
 have Hwc:=zh h.bl.size
 clear h hJ1 hk1 hbx hoff hcl hfb hn hnx hok
 go_enter Tryz.func87,Tryz.ntmps87
 go_wp2_with fail
 generalize w.alloc _=w1 at *
 refine cM HM.o ?_
 intro e w2 q
 rcases Hmp.o e w2 q with⟨rfl,hr,g',R',hJ,hmv⟩ | ⟨x,rfl,hr,hwf,g',R',hJ,hR,hmv⟩
 ·obtain⟨ho2,hbk⟩:=Hoff.o.mv hmv
  have hb2:=hbk.trans Hbx.o
  obtain⟨c0,c1,z0,z1,cl⟩:=zaa hb2
  have hb3:=zae hb2 (.bool false) (.int .i64 0)
  obtain⟨d0,d1,_⟩:=zaa hb3
  have Q:Hid (ThingPost X w g m kind tag n (.returned (.tuple #[.agg #[.bool false,.int .i64 0],.int .i64 3])) ((w2.setCell ⟨w.heap.size,0,none⟩ (.bool false)).setCell ⟨w.heap.size,1,none⟩ (.int .i64 0))):=ThingPost.no _ g' R' hr (hJ.box2 ho2 Hwc.o _ _) (((Hm1.o.trans hmv).setOff (Nat.le_refl _) _ _).setOff (Nat.le_refl _) _ _)
  clear hJ hmv hr q ho2 hbk hb2 hb3 f3 f4
  go_wp2_with fail
  exact bR (by simp[results,Tryz.results87,go_sem,d0,d1]) Q.o
 ·obtain⟨ho2,hbk⟩:=Hoff.o.mv hmv
  have hb2:=hbk.trans Hbx.o
  obtain⟨c0,c1,z0,z1,cl⟩:=zaa hb2
  have hb3:=zae hb2 (.bool true) (.int .i64 x)
  obtain⟨d0,d1,_⟩:=zaa hb3
  have Q:Hid (ThingPost X w g m kind tag n (.returned (.tuple #[.agg #[.bool true,.int .i64 x],.int .i64 0])) ((w2.setCell ⟨w.heap.size,0,none⟩ (.bool true)).setCell ⟨w.heap.size,1,none⟩ (.int .i64 x))):=ThingPost.yes _ g' R' x hr (hJ.box2 ho2 Hwc.o _ _) hR hwf (((Hm1.o.trans hmv).setOff (Nat.le_refl _) _ _).setOff (Nat.le_refl _) _ _)
  clear hJ hmv hr q ho2 hbk hb2 hb3 f3 f4 hR
  go_wp2_with fail
  exact bR (by simp[results,Tryz.results87,go_sem,d0,d1]) Q.o
end
inductive failOf(cells:Int)(m:AM):Act1->Int->AM->Prop
 | wrong:failOf cells m .wrong 4 m
 | raise (k:Int) (hk:-6<=k/\k < 0):failOf cells m (.raise k) k m
 | make (t:Th) (h:¬ room cells m.D m.s.roots t.fs.length):failOf cells m (.make t) 3 m.bump
inductive valOf(cells:Int)(m:AM):Act1->AM->Cl->Prop
 | give (v:Cl):valOf cells m (.give v) m v
 | set (x:Int) (i:Nat) (v:Cl):valOf cells m (.set x i v) (m.setD x i v) (num 0)
 | make (t:Th) (h:room cells m.D m.s.roots t.fs.length):valOf cells m (.make t) (m.make t) ⟨true,m.next⟩
 | out (l:List UInt8):valOf cells m (.out l) {m with out:=m.out++l} (num 0)
inductive zP(X:Fx)(w:World)(g:Pg)(m:AM)(a:Act1):Ending->World->Prop
 | fail (f:Int) (m':AM) (hf:failOf X.cells m a f m') (w':World) (g':Pg) (R':Int->Int->Prop) (hJ:J X w' g' m' R') (hm:Mv X w g w' g'):zP X w g m a (.returned (.tuple #[.agg #[.bool false,.int .i64 0],.int .i64 f])) w'
 | val (p v:Cl) (m':AM) (hv:valOf X.cells m a m' v) (w':World) (g':Pg) (R':Int->Int->Prop) (hJ:J X w' g' m' R') (hp:zI R' p v) (hw:wfC p) (hm:Mv X w g w' g'):zP X w g m a (.returned (.tuple #[.agg #[.bool p.p,.int .i64 p.n],.int .i64 0])) w'
theorem zgc(m:AM)(t:Th)(i:Nat)(d:Cl):(m.make t).setD m.next i d=m.make ⟨t.kind,t.tag,t.fs.set i d⟩:=by
 unfold AM.setD AM.make
 simp only
 rw[zk3 (zbf _ _ _)]
 congr 1
 funext y
 by_cases e:y=m.next
 ·subst e
  rw[zbf,zbf]
 ·rw[zav _ _ e,zav _ _ e,zav _ _ e]
theorem zwx(a b:Nat)(h:b<=a)(ha:a<=1000000000000):IntKind.i64.wrap ((a:Int) - (b:Int))=((a - b:Nat):Int):=by
 rw[IntKind.wrap_i64]
 omega
theorem zu6(a:Nat)(h:1<=a)(ha:a<=1000000000000):IntKind.i64.wrap ((a:Int) - 1)=((a - 1:Nat):Int):=by
 rw[IntKind.wrap_i64]
 omega
theorem zge(i:Nat)(h:i<=1000000000000):wrap64 ((i:Int)+1)=(i:Int)+1:=wrap64_in _ (by omega)
theorem zdf{i n:Nat}(h:i<=n)(h2:¬ i < n):i=n:=Nat.le_antisymm h (Nat.le_of_not_lt h2)
def fsAt(l:List Cl)(n i:Nat):List Cl:=l.take i++List.replicate (n - i) default
theorem zgy(l:List Cl)(n:Nat):fsAt l n 0=List.replicate n default:=by simp[fsAt]
theorem zio(l:List Cl)(n:Nat)(h:l.length=n):fsAt l n n=l:=by
 subst h
 simp[fsAt]
theorem zin(l:List Cl)(n i:Nat)(h:l.length=n)(hi:i<=n):(fsAt l n i).length=n:=by
 simp[fsAt]
 omega
theorem zgz(l:List Cl)(n i:Nat)(h:l.length=n)(hi:i < l.length):(fsAt l n i).set i (l[i]'hi)=fsAt l n (i+1):=by
 unfold fsAt
 rw[List.set_append_right _ _ (by simp;omega)]
 have h1:(l.take i).length=i:=by simp;omega
 have h2:l.take (i+1)=l.take i++[l[i]'hi]:=by rw[List.take_add_one,gE hi];rfl
 rw[h1,Nat.sub_self,show n - i=(n - (i+1))+1 by omega,List.replicate_succ,List.set_cons_zero,h2,List.append_assoc]
 rfl
theorem zd9(s:St)(n:Nat)(h:n<=s.vA.length):(s.lastN n).length=n:=by
 unfold St.lastN
 rw[List.length_drop]
 omega
theorem ztd(s:St)(n i:Nat)(h:n<=s.vA.length)(hi:i < n):s.top (n - 1 - i)=(s.lastN n)[i]'(by rw[zd9 s n h];exact hi):=by
 unfold St.top St.lastN
 rw[List.getElem_drop,gE (by omega)]
 simp only[Option.getD_some]
 congr 1
 omega
section
variable{X:Fx}{w:World}{g:Pg}{m:AM}{R:Int->Int->Prop}
theorem zd8(m:AM)(t:Th):lenA (m.make t).D m.next=t.fs.length:=by
 unfold lenA AM.make
 simp only
 rw[zbf]
 rfl
theorem zf3(h:J X w g m R)(hn:0 < m.s.cA.length)(hnx:m.next+1<=1000000000)(kind tag:Int)(n:Nat)(hok:0<=kind/\kind<=4/\0<=tag/\tag<=65535/\n<=65535)(hv:n<=m.s.vA.length):Calls Tryz.prog 88 #[.pointer (some ⟨X.mm,0,none⟩),.int .i64 kind,.int .i64 tag,.int .i64 n] w fun e w'=>zP X w g m (.make ⟨kind,tag,m.s.lastN n⟩) e w':=by
 have hk1:Kp [] w (w.alloc (.cells #[.bool false,.int .i64 0] 67)):=kA
 have hJ1:=h.kp hk1
 have Hbx:Hid ((w.alloc (.cells #[.bool false,.int .i64 0] 67)).heap[w.heap.size]? = some (.cells #[.bool false,.int .i64 0] 67)):=zab w _
 have Hoff:Hid (Off X (w.alloc (.cells #[.bool false,.int .i64 0] 67)) g w.heap.size):=h.off (w':=w.alloc (.cells #[.bool false,.int .i64 0] 67)) (b:=w.heap.size) (Nat.le_refl _) (by simp)
 have HM:Hid _:=zgt hJ1 hn hnx kind tag n (by omega)
 have Hm1:Hid (Mv X w g (w.alloc (.cells #[.bool false,.int .i64 0] 67)) g):=Mv.zk hk1
 have Hwc:=zh h.bl.size
 have Hhn:Hid (_/\n<=65535):=⟨hv,by omega⟩
 clear h hJ1 hk1 hn hnx hok hv
 go_enter Tryz.func88,Tryz.ntmps88
 go_wp2_with fail
 generalize w.alloc _=w1 at *
 generalize hb0e:w.heap.size=b0 at *
 have Hsz:Hid (w.heap.size<=b0):=by unfold Hid;omega
 clear hb0e
 refine cM HM.o ?_
 intro e w2 q
 cases q with
 | no w2 g' R' hr hJ hmv=>
  obtain⟨ho2,hbk⟩:=Hoff.o.mv hmv
  have hb2:=hbk.trans Hbx.o
  have hk3:Kp [] w2 (w2.alloc (.cells #[.bool false,.int .i64 0] 67)):=kA
  have hb0:=(hk3.block b0 ho2.1 (by simp)).trans hb2
  have ho0:Off X (w2.alloc (.cells #[.bool false,.int .i64 0] 67)) g' b0:=⟨lL ho2.1 hk3.size,ho2.2⟩
  obtain⟨c0,c1,z0,z1,cl⟩:=zaa hb0
  have hb3:(w2.alloc (.cells #[.bool false,.int .i64 0] 67)).heap[w2.heap.size]? = some (.cells #[.bool false,.int .i64 0] 67):=zab w2 _
  obtain⟨e0,e1,_,_,el⟩:=zaa hb3
  have hb4:=zae hb0 (.bool false) (.int .i64 0)
  obtain⟨d0,d1,_⟩:=zaa hb4
  have Q:Hid (zP X w g m (.make ⟨kind,tag,m.s.lastN n⟩) (.returned (.tuple #[.agg #[.bool false,.int .i64 0],.int .i64 3])) (((w2.alloc (.cells #[.bool false,.int .i64 0] 67)).setCell ⟨b0,0,none⟩ (.bool false)).setCell ⟨b0,1,none⟩ (.int .i64 0))):=by
   refine zP.fail 3 m.bump (failOf.make _ (by simp only;rw[zd9 _ _ Hhn.o.1];exact hr)) _ g' R' ((hJ.kp hk3).box2 ho0 Hwc.o _ _) (((Hm1.o.trans (hmv.trans (Mv.zk hk3))).setOff Hsz.o _ _).setOff Hsz.o _ _)
  clear hJ hmv hr ho2 hbk hb2 hb3 hb4 hk3 hb0 ho0
  go_wp2_with fail
  exact bR (by simp[results,Tryz.results88,go_sem,d0,d1]) Q.o
 | yes w2 g' R' x hr hJ hR hwf hmv=>
  obtain⟨ho2,hbk⟩:=Hoff.o.mv hmv
  have hb2:=hbk.trans Hbx.o
  have hk3:Kp [] w2 (w2.alloc (.cells #[.bool true,.int .i64 x] 67)):=kA
  have hJ3:=hJ.kp hk3
  have hb3:(w2.alloc (.cells #[.bool true,.int .i64 x] 67)).heap[w2.heap.size]? = some (.cells #[.bool true,.int .i64 x] 67):=zab w2 _
  have hb0:=(hk3.block b0 ho2.1 (by simp)).trans hb2
  have ho3:Off X (w2.alloc (.cells #[.bool true,.int .i64 x] 67)) g' w2.heap.size:=hJ.off (Nat.le_refl _) (by simp)
  have ho0:Off X (w2.alloc (.cells #[.bool true,.int .i64 x] 67)) g' b0:=⟨lL ho2.1 hk3.size,ho2.2⟩
  have Hm3:Hid _:=Hm1.o.trans (hmv.trans (Mv.zk hk3))
  have Hh3:Hid (w.heap.size<=w2.heap.size/\b0≠w2.heap.size):=⟨by have:=Hm1.o.kp.size;have:=hmv.kp.size;omega,by have:=ho2.1;omega⟩
  have HJ3:=zh hJ3
  have HS:Hid (_/\_/\_/\_/\_/\_/\_):=⟨hb3,hb0,ho3,ho0,hR,hr,hwf⟩
  clear hJ hJ3 hmv hr ho2 hbk hb2 hb3 hk3 hb0 ho0 ho3 hR hwf
  go_wp2_with fail
  generalize w2.alloc _=w3 at *
  generalize w2.heap.size=b1 at *
  go_loopw [24] (fun iv wr=>∃ (i:Nat),i<=n/\iv=.int .i64 (i:Nat)/\Hid (∃ ts',J X wr {g' with ts:=ts'} (m.make ⟨kind,tag,fsAt (m.s.lastN n) n i⟩) R'/\Mv X w3 g' wr {g' with ts:=ts'})) (fun i _=>n - (intOf i).toNat)
  case atStart=>
   refine⟨0,Nat.zero_le _,rfl,g'.ts,?_,Mv.refl _ _ _⟩
   rw[zgy]
   exact HJ3.o
  case round=>
   obtain⟨i,hi,rfl,HL⟩:=hrel
   obtain⟨ts',hJr,hmr⟩:=HL.o
   obtain⟨hb3,hb0,ho3,ho0,hR,hr,hwf⟩:=HS.o
   obtain⟨ho3r,hk3r⟩:=ho3.mv hmr
   obtain⟨ho0r,hk0r⟩:=ho0.mv hmr
   have hb3r:=hk3r.trans hb3
   have hb0r:=hk0r.trans hb0
   by_cases hin:i < n
   ·have h1:=Int.ofNat_lt.2 hin
    have h2:=zge i (Nat.le_trans hi (Nat.le_trans Hhn.o.2 (by decide)))
    have hw1:=zu6 n (Nat.le_trans (Nat.succ_le_succ (Nat.zero_le i)) hin) (Nat.le_trans Hhn.o.2 (by decide))
    have hw2:IntKind.i64.wrap (((n - 1:Nat):Int) - (i:Int))=((n - 1 - i:Nat):Int):=zwx (n - 1) i (Nat.le_sub_one_of_lt hin) (Nat.le_trans (Nat.sub_le _ _) (Nat.le_trans Hhn.o.2 (by decide)))
    have hvl:=hJr.vlen
    have hvn:n - 1 - i < m.s.vA.length:=lL (Nat.lt_of_le_of_lt (Nat.sub_le _ _) (Nat.sub_lt (Nat.lt_of_le_of_lt (Nat.zero_le i) hin) Nat.one_pos)) Hhn.o.1
    have HF:Hid (∀ wx,Kp [] wr wx->(wx.cell? ⟨X.mm,2,none⟩=some (.pointer (some ⟨X.hp,0,none⟩))/\X.mm < wx.heap.size)/\wx.cell? ⟨b1,0,none⟩=some (.bool true)/\wx.cell? ⟨b1,1,none⟩=some (.int .i64 x)/\b1 < wx.heap.size):=fun wx hx=>by
     have e1:=(hx.block _ ho3r.1 (by simp)).trans hb3r
     have hb1:=hJr.box.kp hx (by simp)
     exact⟨⟨hb1.heap.1,hb1.lt⟩,by simp only[World.cell?,e1];rfl,by simp only[World.cell?,e1];rfl,(sz e1)⟩
    have HT:Hid _:=zbc hJr (n - 1 - i) (by rw[hvl];exact hvn)
    have HSet:Hid (∀ wx,Kp [] wr wx->Calls Tryz.prog 52 #[.pointer (some ⟨X.hp,0,none⟩),.int .i64 x,.int .i64 i,.agg #[.bool (g'.s.top (n - 1 - i)).p,.int .i64 (g'.s.top (n - 1 - i)).n]] wx fun e w'=>e=.returned (.tuple #[])/\∃ ts2,J X w' {g' with ts:=ts2} (m.make ⟨kind,tag,fsAt (m.s.lastN n) n (i+1)⟩) R'/\Mv X w3 g' w' {g' with ts:=ts2}):=fun wx hx=>by
     have hlen:(m.s.lastN n).length=n:=zd9 _ _ Hhn.o.1
     have hJx:=hJr.kp hx
     have hti:=hJr.top (n - 1 - i) hvn
     have htw:=hJr.topwf (n - 1 - i) hvn
     refine cM (zdp hJx hR i (by rw[zd8];simp only;rw[zin _ _ _ hlen hi];exact hin) _ _ hti htw) ?_
     rintro e w' ⟨rfl,ts2,hJ2,hm2⟩
     refine⟨rfl,ts2,?_,hmr.trans ((Mv.zk hx).trans hm2)⟩
     have e2:(m.make ⟨kind,tag,fsAt (m.s.lastN n) n i⟩).setD m.next i ((m.make ⟨kind,tag,fsAt (m.s.lastN n) n i⟩).s.top (n - 1 - i))=m.make ⟨kind,tag,fsAt (m.s.lastN n) n (i+1)⟩:=by
      rw[zgc]
      simp only
      rw[show(m.make ⟨kind,tag,fsAt (m.s.lastN n) n i⟩).s=m.s from rfl,ztd m.s n i Hhn.o.1 hin,zgz _ _ _ hlen]
     rw[e2] at hJ2
     exact hJ2
    clear hJr hmr hb3 hb0 ho3 ho0 hR hr hwf ho3r hk3r ho0r hk0r hb3r hb0r hvl hvn
    generalize g'.s.top (n - 1 - i)=tc at *
    obtain⟨tp,tn⟩:=tc
    simp only at HT HSet
    generalize n - 1 - i=ti at *
    generalize n - 1=nm at *
    go_upto_region 6 with fail
    refine zan 13 (C:=fun wx=>Kp [] wr wx) (by kernel_rfl) ?_
    refine qT 0 rfl ?_
    apply xI
    (intro wx hwx;go_simp <;> rfl)
    refine qT 1 rfl ?_
    apply xI
    (intro wx hwx;go_simp <;> rfl)
    refine qT 2 rfl ?_
    apply xI
    (intro wx hwx;go_simp <;> rfl)
    refine qT 3 rfl ?_
    apply xI
    (intro wx hwx;obtain⟨⟨f3,f4⟩,f0,f1,f2⟩:=HF.o wx hwx;go_simp <;> rfl)
    refine qT 4 rfl ?_
    apply xI
    (intro wx hwx;go_simp <;> rfl)
    refine qT 5 rfl ?_
    apply xI
    (intro wx hwx;obtain⟨⟨f3,f4⟩,f0,f1,f2⟩:=HF.o wx hwx;go_simp <;> rfl)
    refine qT 6 rfl ?_
    apply xI
    (intro wx hwx;go_simp <;> rfl)
    refine qT 7 rfl ?_
    apply xI
    (intro wx hwx;go_simp <;> rfl)
    refine qT 8 rfl ?_
    apply xI
    (intro wx hwx;go_simp <;> rfl)
    refine qT 9 rfl ?_
    apply xI
    (intro wx hwx;go_simp <;> rfl)
    refine qT 10 rfl ?_
    apply xI
    (intro wx hwx;go_simp <;> rfl)
    refine qT 11 rfl ?_
    apply xI
    (intro wx hwx;go_simp <;> rfl)
    refine oL 12 (Kp.refl _ _).drew rfl (fun K hK=>?_)
    go_simp
    refine cM (HT.o _ (Kp.refl _ _).drew) ?_
    rintro e9 w9 ⟨rfl,hw9⟩
    refine hK _ _ ?_
    clear hK K
    refine oL 13 hw9 rfl (fun K hK=>?_)
    go_simp
    refine cM (HSet.o _ hw9) ?_
    rintro e10 w10 ⟨rfl,ts2,hJ2,hm2⟩
    refine hK _ _ ?_
    clear hK K
    refine zas (by kernel_rfl) (by kernel_rfl) ?_
    go_simp
    have HQ:Hid (∃ ts',J X w10 {g' with ts:=ts'} (m.make ⟨kind,tag,fsAt (m.s.lastN n) n (i+1)⟩) R'/\Mv X w3 g' w10 {g' with ts:=ts'}):=⟨ts2,hJ2,hm2⟩
    have Hin:=zh hin
    clear hJ2 hm2 hw9 h1 hw1 hw2 hin hi
    go_wp2_with fail
    go_roundw
    case rel=>exact⟨i+1,Hin.o,by first | rfl | (congr 1;omega) | go_num,HQ⟩
    case measure=>have:=Hin.o;rw[h2];clear h2;simp[intOf];omega
   ·have e:i=n:=zdf hi hin
    subst e
    have h1:¬ ((i:Int) < (i:Int)):=Int.lt_irrefl _
    rw[zio _ _ (zd9 _ _ Hhn.o.1)] at hJr
    obtain⟨c0,c1,z0,z1,cl⟩:=zaa hb0r
    obtain⟨e0,e1,_,_,el⟩:=zaa hb3r
    have hb4:=zae hb0r (.bool true) (.int .i64 x)
    obtain⟨d0,d1,_⟩:=zaa hb4
    have Q:Hid (zP X w g m (.make ⟨kind,tag,m.s.lastN i⟩) (.returned (.tuple #[.agg #[.bool true,.int .i64 x],.int .i64 0])) ((wr.setCell ⟨b0,0,none⟩ (.bool true)).setCell ⟨b0,1,none⟩ (.int .i64 x))):=zP.val ⟨true,x⟩ ⟨true,m.next⟩ _ (valOf.make _ (by simp only;rw[zd9 _ _ Hhn.o.1];exact hr)) _ _ R' (hJr.box2 ho0r Hwc.o _ _) ⟨rfl,(fun e=>by cases e),fun _=>hR⟩ hwf (((Hm3.o.trans hmr).setOff Hsz.o _ _).setOff Hsz.o _ _)
    clear hJr hmr hb3 hb0 ho3 ho0 hR hr hwf ho3r hk3r ho0r hk0r hb3r hb0r hb4
    go_wp2_with fail
    exact bR (by simp[results,Tryz.results88,go_sem,d0,d1]) Q.o
theorem zb5(R:Int->Int->Prop)(n:Int):zI R ⟨false,n⟩ (num n):=⟨rfl,fun _=>rfl,fun e=>by cases e⟩
theorem zco{n:Int}(h:-9223372036854775808<=n/\n<=9223372036854775807):wfC ⟨false,n⟩:=zhu h
theorem zk2{w3:World}{g':Pg}{R':Int->Int->Prop}{kind tag x:Int}(h:J X w3 g' (m.make ⟨kind,tag,List.replicate 1 default⟩) R')(hR:R' x m.next)(c d:Cl)(hcd:zI R' c d)(hwf:wfC c):∀ wx,Kp [] w3 wx->Calls Tryz.prog 52 #[.pointer (some ⟨X.hp,0,none⟩),.int .i64 x,.int .i64 0,.agg #[.bool c.p,.int .i64 c.n]] wx fun e w'=>e=.returned (.tuple #[])/\∃ ts2,J X w' {g' with ts:=ts2} (m.make ⟨kind,tag,[d]⟩) R'/\Mv X w3 g' w' {g' with ts:=ts2}:=by
 intro wx hx
 refine cM (zdp (h.kp hx) hR 0 (by rw[zd8];simp) c d hcd hwf) ?_
 rintro e w' ⟨rfl,ts2,hJ2,hm2⟩
 rw[zgc] at hJ2
 exact⟨rfl,ts2,hJ2,(Mv.zk hx).trans hm2⟩
theorem ziu(h:J X w g m R)(hn:0 < m.s.cA.length)(hnx:m.next+1<=1000000000)(text takes:Int)(htx:0<=text/\text<=65535)(htk:0<=takes/\takes<=65535):Calls Tryz.prog 91 #[.pointer (some ⟨X.mm,0,none⟩),.int .i64 text,.int .i64 takes] w fun e w'=>zP X w g m (.make ⟨4,takes,[num text]⟩) e w':=by
 have hk1:Kp [] w (w.alloc (.cells #[.bool false,.int .i64 0] 67)):=kA
 have hJ1:=h.kp hk1
 have Hbx:Hid ((w.alloc (.cells #[.bool false,.int .i64 0] 67)).heap[w.heap.size]? = some (.cells #[.bool false,.int .i64 0] 67)):=zab w _
 have Hoff:=zh (h.off (w':=w.alloc (.cells #[.bool false,.int .i64 0] 67)) (b:=w.heap.size) (Nat.le_refl _) (by simp))
 have HM:Hid _:=zgt hJ1 hn hnx 4 takes 1 (by omega)
 have Hm1:Hid (Mv X w g (w.alloc (.cells #[.bool false,.int .i64 0] 67)) g):=Mv.zk hk1
 have Hwc:=zh h.bl.size
 have Hwf:Hid (wfC ⟨false,text⟩):=zco (by omega)
 clear h hJ1 hk1 hn hnx htx htk
 go_enter Tryz.func91,Tryz.ntmps91
 go_wp2_with fail
 generalize w.alloc _=w1 at *
 generalize hb0e:w.heap.size=b0 at *
 have Hsz:Hid (w.heap.size<=b0):=by unfold Hid;omega
 clear hb0e
 refine cM HM.o ?_
 intro e w2 q
 cases q with
 | no w2 g' R' hr hJ hmv=>
  obtain⟨ho2,hbk⟩:=Hoff.o.mv hmv
  have hb2:=hbk.trans Hbx.o
  have hk3:Kp [] w2 (w2.alloc (.cells #[.bool false,.int .i64 0] 67)):=kA
  have hb0:=(hk3.block b0 ho2.1 (by simp)).trans hb2
  have ho0:Off X (w2.alloc (.cells #[.bool false,.int .i64 0] 67)) g' b0:=⟨lL ho2.1 hk3.size,ho2.2⟩
  obtain⟨c0,c1,z0,z1,cl⟩:=zaa hb0
  have hb3:(w2.alloc (.cells #[.bool false,.int .i64 0] 67)).heap[w2.heap.size]? = some (.cells #[.bool false,.int .i64 0] 67):=zab w2 _
  obtain⟨e0,e1,_,_,el⟩:=zaa hb3
  have hb4:=zae hb0 (.bool false) (.int .i64 0)
  obtain⟨d0,d1,_⟩:=zaa hb4
  have Q:Hid (zP X w g m (.make ⟨4,takes,[num text]⟩) (.returned (.tuple #[.agg #[.bool false,.int .i64 0],.int .i64 3])) (((w2.alloc (.cells #[.bool false,.int .i64 0] 67)).setCell ⟨b0,0,none⟩ (.bool false)).setCell ⟨b0,1,none⟩ (.int .i64 0))):=by
   refine zP.fail 3 m.bump (failOf.make _ hr) _ g' R' ((hJ.kp hk3).box2 ho0 Hwc.o _ _) (((Hm1.o.trans (hmv.trans (Mv.zk hk3))).setOff Hsz.o _ _).setOff Hsz.o _ _)
  clear hJ hmv hr ho2 hbk hb2 hb3 hb4 hk3 hb0 ho0
  go_wp2_with fail
  exact bR (by simp[results,Tryz.results91,go_sem,d0,d1]) Q.o
 | yes w2 g' R' x hr hJ hR hwf hmv=>
  obtain⟨ho2,hbk⟩:=Hoff.o.mv hmv
  have hb2:=hbk.trans Hbx.o
  have hk3:Kp [] w2 (w2.alloc (.cells #[.bool true,.int .i64 x] 67)):=kA
  have hJ3:=hJ.kp hk3
  have hb3:(w2.alloc (.cells #[.bool true,.int .i64 x] 67)).heap[w2.heap.size]? = some (.cells #[.bool true,.int .i64 x] 67):=zab w2 _
  have hb0:=(hk3.block b0 ho2.1 (by simp)).trans hb2
  have ho3:Off X (w2.alloc (.cells #[.bool true,.int .i64 x] 67)) g' w2.heap.size:=hJ.off (Nat.le_refl _) (by simp)
  have ho0:Off X (w2.alloc (.cells #[.bool true,.int .i64 x] 67)) g' b0:=⟨lL ho2.1 hk3.size,ho2.2⟩
  have Hm3:=zh (Hm1.o.trans (hmv.trans (Mv.zk hk3)))
  have HF:Hid (∀ wx,Kp [] (w2.alloc (.cells #[.bool true,.int .i64 x] 67)) wx->(wx.cell? ⟨X.mm,2,none⟩=some (.pointer (some ⟨X.hp,0,none⟩))/\X.mm < wx.heap.size)/\wx.cell? ⟨w2.heap.size,0,none⟩=some (.bool true)/\wx.cell? ⟨w2.heap.size,1,none⟩=some (.int .i64 x)/\w2.heap.size < wx.heap.size):=fun wx hx=>by
   have e1:=(hx.block _ ho3.1 (by simp)).trans hb3
   have hb1:=hJ3.box.kp hx (by simp)
   exact⟨⟨hb1.heap.1,hb1.lt⟩,by simp only[World.cell?,e1];rfl,by simp only[World.cell?,e1];rfl,(sz e1)⟩
  have HSet:Hid (∀ wx,Kp [] (w2.alloc (.cells #[.bool true,.int .i64 x] 67)) wx->Calls Tryz.prog 52 #[.pointer (some ⟨X.hp,0,none⟩),.int .i64 x,.int .i64 0,.agg #[.bool false,.int .i64 text]] wx fun e w'=>e=.returned (.tuple #[])/\∃ ts2,J X w' {g' with ts:=ts2} (m.make ⟨4,takes,[num text]⟩) R'/\Mv X (w2.alloc (.cells #[.bool true,.int .i64 x] 67)) g' w' {g' with ts:=ts2}):=zk2 hJ3 hR ⟨false,text⟩ (num text) (zb5 _ _) Hwf.o
  have HN:Hid (∀ wx,Kp [] (w2.alloc (.cells #[.bool true,.int .i64 x] 67)) wx->Calls Tryz.prog 85 #[.int .i64 text] wx fun e w'=>e=.returned (.agg #[.bool false,.int .i64 text])/\Kp [] (w2.alloc (.cells #[.bool true,.int .i64 x] 67)) w'):=fun wx hx=>cM (za0 wx text) (fun e w' q=>⟨q.1,hx.trans q.2⟩)
  have HS:Hid (_/\_/\_/\_/\_/\_/\_):=⟨hb3,hb0,ho3,ho0,hR,hr,hwf⟩
  clear hJ hJ3 hmv hr ho2 hbk hb2 hb3 hk3 hb0 ho0 ho3 hR hwf
  go_upto_region 3 with fail
  generalize w2.alloc _=w3 at *
  generalize w2.heap.size=b1 at *
  refine zan 8 (C:=fun wx=>Kp [] w3 wx) (by kernel_rfl) ?_
  refine qT 0 rfl ?_
  apply xI
  (intro wx hwx;go_simp <;> rfl)
  refine qT 1 rfl ?_
  apply xI
  (intro wx hwx;go_simp <;> rfl)
  refine qT 2 rfl ?_
  apply xI
  (intro wx hwx;go_simp <;> rfl)
  refine qT 3 rfl ?_
  apply xI
  (intro wx hwx;obtain⟨⟨f3,f4⟩,f0,f1,f2⟩:=HF.o wx hwx;go_simp <;> rfl)
  refine qT 4 rfl ?_
  apply xI
  (intro wx hwx;go_simp <;> rfl)
  refine qT 5 rfl ?_
  apply xI
  (intro wx hwx;obtain⟨⟨f3,f4⟩,f0,f1,f2⟩:=HF.o wx hwx;go_simp <;> rfl)
  refine qT 6 rfl ?_
  apply xI
  (intro wx hwx;go_simp <;> rfl)
  refine oL 7 (Kp.refl _ _).drew rfl (fun K hK=>?_)
  go_simp
  refine cM (HN.o _ (Kp.refl _ _).drew) ?_
  rintro e9 w9 ⟨rfl,hw9⟩
  refine hK _ _ ?_
  clear hK K
  refine oL 8 hw9 rfl (fun K hK=>?_)
  go_simp
  refine cM (HSet.o _ hw9) ?_
  rintro e10 w10 ⟨rfl,ts2,hJ2,hm2⟩
  refine hK _ _ ?_
  clear hK K
  refine zas (by kernel_rfl) (by kernel_rfl) ?_
  go_simp
  obtain⟨hb3,hb0,ho3,ho0,hR,hr,hwf⟩:=HS.o
  obtain⟨ho3r,hk3r⟩:=ho3.mv hm2
  obtain⟨ho0r,hk0r⟩:=ho0.mv hm2
  have hb3r:=hk3r.trans hb3
  have hb0r:=hk0r.trans hb0
  obtain⟨c0,c1,z0,z1,cl⟩:=zaa hb0r
  obtain⟨e0,e1,_,_,el⟩:=zaa hb3r
  have hb4:=zae hb0r (.bool true) (.int .i64 x)
  obtain⟨d0,d1,_⟩:=zaa hb4
  have Q:Hid (zP X w g m (.make ⟨4,takes,[num text]⟩) (.returned (.tuple #[.agg #[.bool true,.int .i64 x],.int .i64 0])) ((w10.setCell ⟨b0,0,none⟩ (.bool true)).setCell ⟨b0,1,none⟩ (.int .i64 x))):=zP.val ⟨true,x⟩ ⟨true,m.next⟩ _ (valOf.make _ hr) _ _ R' (hJ2.box2 ho0r Hwc.o _ _) ⟨rfl,(fun e=>by cases e),fun _=>hR⟩ hwf (((Hm3.o.trans hm2).setOff Hsz.o _ _).setOff Hsz.o _ _)
  clear hJ2 hm2 hb3 hb0 ho3 ho0 hR hr hwf ho3r hk3r ho0r hk0r hb3r hb0r hb4 hw9
  go_wp2_with fail
  exact bR (by simp[results,Tryz.results91,go_sem,d0,d1]) Q.o
end
theorem znq(w:World)(s:ByteArray):Calls Tryz.prog 101 #[.string s] w fun e w'=>e=.returned (.int .i64 (pack8 s.data.toList))/\w'=w:=by
 have hsz:s.size=s.data.toList.length:=by simp
 obtain⟨N,hN⟩:∃ N:Nat->Int,∀ i,N i=zgm s.data.toList i:=⟨fun i=>zgm s.data.toList i,fun _=>rfl⟩
 have HN0:N 0=0:=hN 0
 have HS:Hid (∀ i (h:i < s.size),N (i+1)=bits .or .u64 (IntKind.u64.wrap (N i * 256)) (IntKind.u64.wrap (s[i]'h).toNat)):=fun i h=>by
  rw[hN,hN,zgm,if_pos (by omega)]
  congr 2
  rw[gE (by omega)]
  rfl
 have HT:Hid (∀ i,¬ i < s.size->N (i+1)=IntKind.u64.wrap (N i * 256)):=fun i h=>by
  rw[hN,hN,zgm,if_neg (by omega)]
 have HE:Hid (IntKind.i64.wrap (N 8)=pack8 s.data.toList):=by
  unfold Hid
  rw[hN]
  rfl
 generalize pack8 s.data.toList=R at *
 clear hN hsz
 go_enter Tryz.func101,Tryz.ntmps101
 go_wp2_with fail
 go_loopw [3,5] (fun nv iv wr=>∃ (i:Nat),i<=8/\nv=.int .u64 (N i)/\iv=.int .i64 (i:Nat)/\wr=w) (fun _ i _=>8 - (intOf i).toNat)
 case atStart=>exact⟨0,Nat.zero_le _,by rw[HN0],rfl,rfl⟩
 case round=>
  obtain⟨i,hi,rfl,rfl,rfl⟩:=hrel
  by_cases h8:i < 8
  ·have h1:(i:Int) < 8:=by omega
   have h2:=zge i (by omega)
   by_cases hs:i < s.size
   ·have h3:(i:Int) < (s.size:Int):=by omega
    have hq:=HS.o i hs
    have Hq:=zh hq
    clear hq
    generalize N i=n at *
    go_wp2_with fail
    go_roundw
    case rel=>exact⟨i+1,by omega,by rw[Hq.o],by first | rfl | (congr 1;omega) | go_num,trivial⟩
    case measure=>simp[intOf];omega
   ·have h3:¬ ((i:Int) < (s.size:Int)):=by omega
    have hq:=HT.o i hs
    have Hq:=zh hq
    clear hq
    generalize N i=n at *
    go_wp2_with fail
    go_roundw
    case rel=>exact⟨i+1,by omega,by rw[Hq.o],by first | rfl | (congr 1;omega) | go_num,trivial⟩
    case measure=>simp[intOf];omega
  ·have e:i=8:=by omega
   subst e
   have h1:¬ ((8:Int) < 8):=by omega
   have hq:=HE.o
   simp only[Int.cast_ofNat_Int] at *
   generalize N 8=n at *
   go_wp2_with fail
   exact bodyPost_ret (v:=.int .i64 R) (by simp[results,Tryz.results101,go_sem]) rfl ⟨rfl,rfl⟩
end Go.Proofs.YtkcmachfagcnaaaGreatDoor
