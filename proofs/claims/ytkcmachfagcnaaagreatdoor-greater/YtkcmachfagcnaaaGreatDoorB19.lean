/- Part of Greater. -/
import Derived.Test.YtkcmachfagcnaaaGreatDoorB18
set_option maxHeartbeats 8000000
set_option maxRecDepth 100000
namespace Go.Proofs.YtkcmachfagcnaaaGreatDoor
open Go.RowKit Go.Deep Go.IntWalk
theorem zCP.undrew{w:World}{hb:Nat}{cells first:Int}{v:Value}{ts:List Th}{rs:List Cl}{S:List Sp}{e:Ending}{w':World}(h:zCP w.drew hb cells first v ts rs S e w'):zCP w hb cells first v ts rs S e w':=by
 cases h with
 | mk V v' w' hn hV hs hh hr hk hf=>exact zCP.mk V v' w' hn hV hs hh (hr.rebase (w1:=w) (fun _ _=>rfl)) ⟨hk.os,hk.tape,hk.output,hk.size,hk.block⟩ hf
inductive FitsPost(w:World)(hb:Nat)(cells first:Int)(v:Value)(ts:List Th)(rs:List Cl)(S:List Sp)(k:Int):Ending->World->Prop
 | no (h:cells < k) (w':World) (hw:Below w.heap.size w w'):FitsPost w hb cells first v ts rs S k (.returned (.bool false)) w'
 | yes (h:k<=cells - total ts) (w':World) (hw:Below w.heap.size w w'):FitsPost w hb cells first v ts rs S k (.returned (.bool true)) w'
 | coll (h:¬ k<=cells - total ts) (n:Nat) (w':World) (hc:zCP w hb cells first v ts rs S (.returned (.int .i64 n)) w'):FitsPost w hb cells first v ts rs S k (.returned (.bool (decide (k<=cells - n)))) w'
theorem zbs{P:Program}{ops:Array Oper}{Q:Exit->Act->World->Prop}{md:Region.Mode}{C:World->Prop}{m i:Nat}{o:Oper}{n:Nat}{listed:Array Bool}{a:Act}{w:World}(hm:listed.getD m true=true)(hi:ops[i]? = some o)(hr:Region.ready md ops listed=[i])(h:∀ K:Act->World->Prop,(∀ a w,anyL P md ops Q C m n (listed.setIfInBounds i true) a w->K a w)->if Region.wanted o (yielded ops a.tmps) then o.wp P a w K Q else K (a.put o.dst undef) w):anyL P md ops Q C m (n+1) listed a w:=
 zi1 (fun h0=>by rw[hm] at h0;cases h0) hr (by simp) (fun j hj=>by
  obtain rfl:j=i:=by simpa using hj
  exact ziy hi h)
theorem zCP.box{w:World}{hb:Nat}{cells first:Int}{v:Value}{ts:List Th}{rs:List Cl}{S:List Sp}{e:Ending}{w':World}(h:zCP w hb cells first v ts rs S e w'):w'.cell? ⟨hb,0,none⟩=some (.int .i64 cells)/\hb < w'.heap.size/\∃ n:Nat,e=.returned (.int .i64 n)/\n<=total ts:=by
 cases h with
 | mk V v' w' hn hV hs hh hr hk hf=>exact⟨by have:=hh.box;simp only[World.cell?,this];rfl,(sz hh.box),_,rfl,zeo hn hs⟩
theorem zit(w:World)(hb:Nat)(cells first:Int)(v:Value)(ts:List Th)(h:HpO w hb cells first v (encL (fun _=>0) first ts))(hcs:0<=cells/\cells<=1000000)(hf:first<=8000000000000000000)(hc:zdn first ts)(rs:List Cl)(hro:zc5 (zO first ts) rs)(S:List Sp)(mm:Nat)(A:Array Value)(hMR:MR S A)(hW:w.heap[mm]? = some (.cells A 64))(hr:RW w S w rs)(k:Int)(hk:1<=k/\k<=1000001) :
  Calls Tryz.prog 117 #[.pointer (some ⟨hb,0,none⟩),.int .i64 k,.func (.func 103) #[.pointer (some ⟨mm,0,none⟩)] #[]] w fun e w'=>FitsPost w hb cells first v ts rs S k e w':=by
 have Hcall:Hid (Calls Tryz.prog 124 #[.pointer (some ⟨hb,0,none⟩),.func (.func 103) #[.pointer (some ⟨mm,0,none⟩)] #[]] w.drew fun e w'=>zCP w hb cells first v ts rs S e w'):=
  cM (zlp w.drew hb cells first v ts (h.kp ((Kp.refl [] w).drew) (by simp) (by simp)) hf hc rs hro S mm A hMR hW ((hr.rebase (w1:=w.drew) (fun _ _=>rfl)).keep (W':=w.drew) (fun _ _=>rfl))) (fun e w' g=>g.undrew)
 obtain⟨p,cap,rfl,hA,ha⟩:=h.at
 have htot:total ts<=1000000:=by have:=h.len;rwa [zak] at this
 rw[zak] at *
 obtain⟨c0,c1,c2,c3⟩:=hA.cells
 rw[zak] at c2
 have hbx:=h.box
 have H:=zh h
 have HN:Hid (∀ n,Below w.heap.size w (w.drewN n)):=fun n=>((Kp.refl [] w).drewN n).below (Nat.le_refl _) (by simp)
 have w1:wrap64 (cells - (total ts:Int))=cells - total ts:=wrap64_in _ (by omega)
 have w1b:IntKind.i64.wrap (cells - (total ts:Int))=cells - total ts:=i64_in _ (by omega)
 clear h hA ha hc hro hW hr hbx
 by_cases hn:cells < k
 ·have Q:Hid (∀ n,FitsPost w hb cells first (.slice p (total ts) cap) ts rs S k (.returned (.bool false)) (w.drewN n)):=fun n=>FitsPost.no hn _ (HN.o n)
  clear w1 w1b
  go_enter Tryz.func117,Tryz.ntmps117
  go_wp2_with fail
  exact bR (by simp[results,Tryz.results117,go_sem]) (Q.o 0)
 ·by_cases hy:k<=cells - total ts
  ·have Q:Hid (∀ n,FitsPost w hb cells first (.slice p (total ts) cap) ts rs S k (.returned (.bool true)) (w.drewN n)):=fun n=>FitsPost.yes hy _ (HN.o n)
   go_enter Tryz.func117,Tryz.ntmps117
   go_wp2_with fail
   go_quiet (fail)
   go_wp2
   exact bR (by simp[results,Tryz.results117,go_sem]) (Q.o _)
  ·have HC0:Hid (_/\_/\_):=⟨c0,c2,c3⟩
   clear c1
   go_enter Tryz.func117,Tryz.ntmps117
   go_upto_region 3 with fail
   clear c0 c2 c3
   refine zan 20 (C:=fun wx=>wx.cell? ⟨hb,0,none⟩=some (.int .i64 cells)/\wx.cell? ⟨hb,2,none⟩=some (.slice p (total ts) cap)/\hb < wx.heap.size) (by kernel_rfl) ?_
   refine zax 13 (i:=0) rfl (by kernel_rfl) (by kernel_rfl) (by kernel_rfl) (by kernel_rfl) (fun _ _ _ _ h=>h) ?_
   constructor
   refine⟨Or.inl ⟨by rfl,fun wx hwx=>?_⟩,?_⟩
   (obtain⟨f0,f1,f2⟩:=hwx;go_simp <;> rfl)
   refine zax 13 (i:=1) rfl (by kernel_rfl) (by kernel_rfl) (by kernel_rfl) (by kernel_rfl) (fun _ _ _ _ h=>h) ?_
   constructor
   refine⟨Or.inl ⟨by rfl,fun wx hwx=>?_⟩,?_⟩
   (obtain⟨f0,f1,f2⟩:=hwx;go_simp <;> rfl)
   refine zax 13 (i:=2) rfl (by kernel_rfl) (by kernel_rfl) (by kernel_rfl) (by kernel_rfl) (fun _ _ _ _ h=>h) ?_
   constructor
   refine⟨Or.inl ⟨by rfl,fun wx hwx=>?_⟩,?_⟩
   (obtain⟨f0,f1,f2⟩:=hwx;go_simp <;> rfl)
   refine zax 13 (i:=3) rfl (by kernel_rfl) (by kernel_rfl) (by kernel_rfl) (by kernel_rfl) (fun _ _ _ _ h=>h) ?_
   constructor
   refine⟨Or.inl ⟨by rfl,fun wx hwx=>?_⟩,?_⟩
   (obtain⟨f0,f1,f2⟩:=hwx;go_simp <;> rfl)
   refine zax 13 (i:=4) rfl (by kernel_rfl) (by kernel_rfl) (by kernel_rfl) (by kernel_rfl) (fun _ _ _ _ h=>h) ?_
   constructor
   refine⟨Or.inl ⟨by rfl,fun wx hwx=>?_⟩,?_⟩
   (obtain⟨f0,f1,f2⟩:=hwx;go_simp <;> rfl)
   refine zax 13 (i:=5) rfl (by kernel_rfl) (by kernel_rfl) (by kernel_rfl) (by kernel_rfl) (fun _ _ _ _ h=>h) ?_
   constructor
   refine⟨Or.inl ⟨by rfl,fun wx hwx=>?_⟩,?_⟩
   (obtain⟨f0,f1,f2⟩:=hwx;go_simp <;> rfl)
   refine zax 13 (i:=6) rfl (by kernel_rfl) (by kernel_rfl) (by kernel_rfl) (by kernel_rfl) (fun _ _ _ _ h=>h) ?_
   constructor
   refine⟨Or.inl ⟨by rfl,fun wx hwx=>?_⟩,?_⟩
   (obtain⟨f0,f1,f2⟩:=hwx;go_simp <;> rfl)
   refine zax 13 (i:=7) rfl (by kernel_rfl) (by kernel_rfl) (by kernel_rfl) (by kernel_rfl) (fun _ _ _ _ h=>h) ?_
   constructor
   refine⟨Or.inl ⟨by rfl,fun wx hwx=>?_⟩,?_⟩
   (obtain⟨f0,f1,f2⟩:=hwx;go_simp <;> rfl)
   refine zax 13 (i:=8) rfl (by kernel_rfl) (by kernel_rfl) (by kernel_rfl) (by kernel_rfl) (fun _ _ _ _ h=>h) ?_
   constructor
   refine⟨Or.inl ⟨by rfl,fun wx hwx=>?_⟩,?_⟩
   (obtain⟨f0,f1,f2⟩:=hwx;go_simp <;> rfl)
   refine zax 13 (i:=9) rfl (by kernel_rfl) (by kernel_rfl) (by kernel_rfl) (by kernel_rfl) (fun _ _ _ _ h=>h) ?_
   constructor
   refine⟨Or.inl ⟨by rfl,fun wx hwx=>?_⟩,?_⟩
   (obtain⟨f0,f1,f2⟩:=hwx;go_simp <;> rfl)
   refine zax 13 (i:=10) rfl (by kernel_rfl) (by kernel_rfl) (by kernel_rfl) (by kernel_rfl) (fun _ _ _ _ h=>h) ?_
   constructor
   refine⟨Or.inl ⟨by rfl,fun wx hwx=>?_⟩,?_⟩
   (obtain⟨f0,f1,f2⟩:=hwx;go_simp <;> rfl)
   refine zax 13 (i:=11) rfl (by kernel_rfl) (by kernel_rfl) (by kernel_rfl) (by kernel_rfl) (fun _ _ _ _ h=>h) ?_
   constructor
   refine⟨Or.inl ⟨by rfl,fun wx hwx=>?_⟩,?_⟩
   (obtain⟨f0,f1,f2⟩:=hwx;go_simp <;> rfl)
   refine zax 13 (i:=12) rfl (by kernel_rfl) (by kernel_rfl) (by kernel_rfl) (by kernel_rfl) (fun _ _ _ _ h=>h) ?_
   constructor
   refine⟨Or.inl ⟨by rfl,fun wx hwx=>?_⟩,?_⟩
   (obtain⟨f0,f1,f2⟩:=hwx;go_simp <;> rfl)
   go_simp
   refine zfk (i:=13) rfl (by kernel_rfl) (by kernel_rfl) (by kernel_rfl) (by kernel_rfl) (fun _ _ _ _ h=>h) ?_
   constructor
   refine⟨Or.inl ⟨by rfl,fun wx hwx=>?_⟩,?_⟩
   (go_simp <;> rfl)
   refine zfk (i:=14) rfl (by kernel_rfl) (by kernel_rfl) (by kernel_rfl) (by kernel_rfl) (fun _ _ _ _ h=>h) ?_
   constructor
   refine⟨Or.inl ⟨by rfl,fun wx hwx=>?_⟩,?_⟩
   (go_simp <;> rfl)
   refine zfk (i:=15) rfl (by kernel_rfl) (by kernel_rfl) (by kernel_rfl) (by kernel_rfl) (fun _ _ _ _ h=>h) ?_
   constructor
   refine⟨Or.inl ⟨by rfl,fun wx hwx=>?_⟩,?_⟩
   (go_simp <;> rfl)
   refine zfk (i:=16) rfl (by kernel_rfl) (by kernel_rfl) (by kernel_rfl) (by kernel_rfl) (fun _ _ _ _ h=>h) ?_
   constructor
   refine⟨Or.inl ⟨by rfl,fun wx hwx=>?_⟩,?_⟩
   (go_simp <;> rfl)
   refine zax 13 (i:=18) rfl (by kernel_rfl) (by kernel_rfl) (by kernel_rfl) (by kernel_rfl) (fun _ _ _ _ h=>h) ?_
   constructor
   refine⟨Or.inl ⟨by rfl,fun wx hwx=>?_⟩,?_⟩
   (obtain⟨f0,f1,f2⟩:=hwx;go_simp <;> rfl)
   refine zax 13 (i:=19) rfl (by kernel_rfl) (by kernel_rfl) (by kernel_rfl) (by kernel_rfl) (fun _ _ _ _ h=>h) ?_
   constructor
   refine⟨Or.inl ⟨by rfl,fun wx hwx=>?_⟩,?_⟩
   (obtain⟨f0,f1,f2⟩:=hwx;go_simp <;> rfl)
   go_simp
   refine zi1 (rs:=[17,20]) (fun _=>HC0.o) (by kernel_rfl) (by simp) ?_
   intro i hi
   have hi3:i=17\/i=20:=by simpa using hi
   clear hi
   rcases hi3 with rfl | rfl
   ·refine ziy (o:=?o1) ?ha1 ?hb1
    case ha1=>rfl
    intro K hK
    obtain⟨f0,f1,f2⟩:=HC0.o
    go_simp
    refine hK _ _ ?_
    clear hK K f0 f1 f2
    refine zmz (i:=20) (o:=?o2) HC0.o ?ha2 (by kernel_rfl) ?hb2
    case ha2=>rfl
    intro K hK
    go_simp
    refine cM Hcall.o ?_
    intro e w2 hCP
    obtain⟨g0,g1,n,rfl,hnt⟩:=hCP.box
    refine hK _ _ ?_
    clear hK K
    have HCP:=zh hCP
    have Q:Hid _:=FitsPost.coll hy n w2 hCP
    have w2':wrap64 (cells - (n:Int))=cells - n:=wrap64_in _ (by omega)
    have w2b:IntKind.i64.wrap (cells - (n:Int))=cells - n:=i64_in _ (by omega)
    clear hCP
    clear g0 g1
    refine zbs (i:=21) (o:=?o3) (by kernel_rfl) ?ha3 (by kernel_rfl) ?hb3
    case ha3=>rfl
    intro K hK
    go_simp
    refine hK _ _ ?_
    clear hK K
    refine zbs (i:=22) (o:=?o4) (by kernel_rfl) ?ha4 (by kernel_rfl) ?hb4
    case ha4=>rfl
    intro K hK
    go_simp
    refine hK _ _ ?_
    clear hK K
    refine zbs (i:=23) (o:=?o5) (by kernel_rfl) ?ha5 (by kernel_rfl) ?hb5
    case ha5=>rfl
    intro K hK
    go_simp
    refine hK _ _ ?_
    clear hK K
    refine zbs (i:=24) (o:=?o6) (by kernel_rfl) ?ha6 (by kernel_rfl) ?hb6
    case ha6=>rfl
    intro K hK
    go_simp
    refine hK _ _ ?_
    clear hK K
    refine zas (by kernel_rfl) (by kernel_rfl) ?_
    go_wp2
    exact bR (by simp[results,Tryz.results117,go_sem]) Q.o
   ·refine ziy (o:=?o7) ?ha7 ?hb7
    case ha7=>rfl
    intro K hK
    go_simp
    refine cM Hcall.o ?_
    intro e w2 hCP
    obtain⟨g0,g1,n,rfl,hnt⟩:=hCP.box
    refine hK _ _ ?_
    clear hK K
    have HCP:=zh hCP
    have Q:Hid _:=FitsPost.coll hy n w2 hCP
    have w2':wrap64 (cells - (n:Int))=cells - n:=wrap64_in _ (by omega)
    have w2b:IntKind.i64.wrap (cells - (n:Int))=cells - n:=i64_in _ (by omega)
    clear hCP
    refine zbs (i:=17) (o:=?o8) (by kernel_rfl) ?ha8 (by kernel_rfl) ?hb8
    case ha8=>rfl
    intro K hK
    go_simp
    refine hK _ _ ?_
    clear hK K
    clear g0 g1
    refine zbs (i:=21) (o:=?o9) (by kernel_rfl) ?ha9 (by kernel_rfl) ?hb9
    case ha9=>rfl
    intro K hK
    go_simp
    refine hK _ _ ?_
    clear hK K
    refine zbs (i:=22) (o:=?o10) (by kernel_rfl) ?ha10 (by kernel_rfl) ?hb10
    case ha10=>rfl
    intro K hK
    go_simp
    refine hK _ _ ?_
    clear hK K
    refine zbs (i:=23) (o:=?o11) (by kernel_rfl) ?ha11 (by kernel_rfl) ?hb11
    case ha11=>rfl
    intro K hK
    go_simp
    refine hK _ _ ?_
    clear hK K
    refine zbs (i:=24) (o:=?o12) (by kernel_rfl) ?ha12 (by kernel_rfl) ?hb12
    case ha12=>rfl
    intro K hK
    go_simp
    refine hK _ _ ?_
    clear hK K
    refine zas (by kernel_rfl) (by kernel_rfl) ?_
    go_wp2
    exact bR (by simp[results,Tryz.results117,go_sem]) Q.o
def okTh(t:Th):Prop:=0<=t.kind/\t.kind<=4/\0<=t.tag/\t.tag<=65535/\∀ c∈t.fs,wfC c
theorem zuu(P:Doc)(x:Int):∀ V:List Int,pos P V x<=(raw P V).length
 | []=>Nat.zero_le _
 | z :: V=>by
  have e:raw P (z :: V)=encT 0 (thP P z)++raw P V:=rfl
  have:=zuu P x V
  rw[pos,e,lA,zc9]
  split <;> omega
theorem zux{P:Doc}{tf:Int}{V:List Int}(ht:0 < tf/\tf<=9000000000000000000)(hl:(raw P V).length<=1000000){c:Cl}(hc:wfC c):wfC (mvC (fw P tf V) c):=by
 unfold mvC
 split
 ·have:=zuu P c.n V
  unfold wfC fw
  exact zhu (by simp only;omega)
 ·exact hc
structure Gc(w:World)(hb:Nat)(cells first:Int)(v:Value)(ts:List Th)(rs:List Cl)(S:List Sp)(w1:World)(first1:Int)(v1:Value)(ts1:List Th)(rs1:List Cl):Prop where
 hp:HpO w1 hb cells first1 v1 (encL (fun _=>0) first1 ts1)
 r:RW w S w1 rs1
 cl:zdn first1 ts1
 ro:zc5 (zO first1 ts1) rs1
 k:Kp ([hb]++v.ownBlock.toList++S.map Sp.b) w w1
 f:v1.ownBlock=v.ownBlock\/∃ g,v1.ownBlock=some g/\w.heap.size<=g
 lt:first1<=first+1000000
 len:rs1.length=rs.length
 oth:(∀ t∈ts,okTh t)->∀ t∈ts1,okTh t
 wfr:(∀ c∈rs,wfC c)->∀ c∈rs1,wfC c
 iso:∀ D R qs,Iso (zO first ts) D R rs qs->∃ R1,Iso (zO first1 ts1) D R1 rs1 qs/\∀ x y,R1 x y->∃ z,R z y
theorem Gc.same{w:World}{hb:Nat}{cells first:Int}{v:Value}{ts:List Th}{rs:List Cl}{S:List Sp}{w1:World}(h:HpO w hb cells first v (encL (fun _=>0) first ts))(hr:RW w S w rs)(hc:zdn first ts)(hro:zc5 (zO first ts) rs)(hw:Below w.heap.size w w1):Gc w hb cells first v ts rs S w1 first v ts rs:=
 ⟨h.kp (Kp.zB (X:=[]) hw) (by simp) (by simp),hr.keep (fun k hk=>hw.block k (hr.lt hk)),hc,hro,Kp.zB hw,Or.inl rfl,by omega,rfl,(fun h=>h),(fun h=>h),fun D R qs hi=>⟨R,hi,fun x y h=>⟨x,h⟩⟩⟩
theorem zi4(P:Doc)(f:Int->Int)(V:List Int):total (V.map (fun x=>mvT f (thP P x)))=zU P V:=by
 rw[<-zak (fun _=>0) 0,<-zk6 f P 0 V,List.length_map,zev]
theorem Gc.moved{w:World}{hb:Nat}{cells first:Int}{v:Value}{ts:List Th}{rs:List Cl}{S:List Sp}{V:List Int}{v':Value}{w':World}(h:HpO w hb cells first v (encL (fun _=>0) first ts))(hV:∀ x,x∈V↔Reach (zO first ts) rs x)(hs:∀ x∈V,(zO first ts x).isSome=true)
  (hh:HpO w' hb cells (first+total ts) v' (encL (fun _=>0) (first+total ts) (V.map (fun x=>mvT (fw (zO first ts) (first+total ts) V) (thP (zO first ts) x)))))
  (hr:RW w S w' (rs.map (mvC (fw (zO first ts) (first+total ts) V)))) (hk:Kp ([hb]++v.ownBlock.toList++S.map Sp.b) w w') (hf:∃ g,v'.ownBlock=some g/\w.heap.size<=g) :
  Gc w hb cells first v ts rs S w' (first+total ts) v' (V.map (fun x=>mvT (fw (zO first ts) (first+total ts) V) (thP (zO first ts) x))) (rs.map (mvC (fw (zO first ts) (first+total ts) V))):=by
 have htot:total ts<=1000000:=by have:=h.len;rwa [zak] at this
 obtain⟨h1,h2⟩:=zj0 (first+total ts) hV hs
 have hlr:(raw (zO first ts) V).length<=1000000:=by
  have:=hh.len
  rw[zak,zi4] at this
  rw[zev]
  exact this
 have htf:=hh.pos
 refine⟨hh,hr,h1,h2,hk,Or.inr hf,by omega,by simp,fun ho t ht=>?_,fun ho c hc=>?_,fun D R qs hi=>⟨_,hi.moved (zqg (first+total ts) hV),?_⟩⟩
 ·obtain⟨x,hx,rfl⟩:=List.mem_map.1 ht
  obtain⟨u,hu⟩:=Option.isSome_iff_exists.1 (hs x hx)
  have hth:thP (zO first ts) x=u:=by unfold thP;rw[hu];rfl
  obtain⟨k1,k2,k3,k4,k5⟩:=ho u (zg3 hu)
  rw[hth]
  refine⟨k1,k2,k3,k4,fun c hc=>?_⟩
  obtain⟨d,hd,rfl⟩:=List.mem_map.1 hc
  exact zux htf hlr (k5 d hd)
 ·obtain⟨d,hd,rfl⟩:=List.mem_map.1 hc
  exact zux htf hlr (ho d hd)
 rintro x y ⟨z,_,hR,_⟩
 exact⟨z,hR⟩
inductive MakePost(w:World)(hb:Nat)(cells first:Int)(v:Value)(ts:List Th)(rs:List Cl)(S:List Sp)(kind tag n:Int):Ending->World->Prop
 | arg (h:kind < 0\/4 < kind\/tag < 0\/65535 < tag\/n < 0\/1000000 < n) (w':World) (hw:Below w.heap.size w w'):MakePost w hb cells first v ts rs S kind tag n (.returned (.tuple #[.int .i64 0,.int .i64 21])) w'
 | mem (m:Nat) (hn:n=m) (h:0<=kind/\kind<=4/\0<=tag/\tag<=65535/\n<=1000000) (hV:∀ V:List Int,V.Nodup->(∀ x,x∈V↔Reach (zO first ts) rs x)->cells < zU (zO first ts) V+1+m)
   (w1:World) (first1:Int) (v1:Value) (ts1:List Th) (rs1:List Cl) (hg:Gc w hb cells first v ts rs S w1 first1 v1 ts1 rs1):MakePost w hb cells first v ts rs S kind tag n (.returned (.tuple #[.int .i64 0,.int .i64 22])) w1
 | new (m:Nat) (hn:n=m) (h:0<=kind/\kind<=4/\0<=tag/\tag<=65535/\n<=1000000) (hV:∀ V:List Int,V.Nodup->(∀ x,x∈V↔Reach (zO first ts) rs x)->(zU (zO first ts) V:Int)+1+m<=cells)
   (w1 w':World) (first1:Int) (v1 v':Value) (ts1:List Th) (rs1:List Cl) (hg:Gc w hb cells first v ts rs S w1 first1 v1 ts1 rs1)
   (hp:HpO w' hb cells first1 v' (encL (fun _=>0) first1 (ts1++[⟨kind,tag,List.replicate m default⟩]))) (hk:Kp ([hb]++v1.ownBlock.toList) w1 w') (hf:v'.ownBlock=v1.ownBlock\/∃ g,v'.ownBlock=some g/\w1.heap.size<=g) :
   MakePost w hb cells first v ts rs S kind tag n (.returned (.tuple #[.int .i64 (first1+total ts1),.int .i64 0])) w'
inductive FitsIs(w:World)(hb:Nat)(cells first:Int)(v:Value)(ts:List Th)(rs:List Cl)(S:List Sp)(m:Nat):Ending->World->Prop
 | no (hV:∀ V:List Int,V.Nodup->(∀ x,x∈V↔Reach (zO first ts) rs x)->cells < zU (zO first ts) V+1+m) (w1:World) (first1:Int) (v1:Value) (ts1:List Th) (rs1:List Cl) (hg:Gc w hb cells first v ts rs S w1 first1 v1 ts1 rs1):FitsIs w hb cells first v ts rs S m (.returned (.bool false)) w1
 | yes (hV:∀ V:List Int,V.Nodup->(∀ x,x∈V↔Reach (zO first ts) rs x)->(zU (zO first ts) V:Int)+1+m<=cells) (w1:World) (first1:Int) (v1:Value) (ts1:List Th) (rs1:List Cl) (hg:Gc w hb cells first v ts rs S w1 first1 v1 ts1 rs1) (hl:(total ts1:Int)+1+m<=cells):FitsIs w hb cells first v ts rs S m (.returned (.bool true)) w1
theorem zwd{w:World}{hb:Nat}{cells first:Int}{v:Value}{ts:List Th}{rs:List Cl}{S:List Sp}{m:Nat}(h:HpO w hb cells first v (encL (fun _=>0) first ts))(hr:RW w S w rs)(hc:zdn first ts)(hro:zc5 (zO first ts) rs){e:Ending}{w':World}(hF:FitsPost w hb cells first v ts rs S ((m:Int)+1) e w'):FitsIs w hb cells first v ts rs S m e w':=by
 cases hF with
 | no h1 w' hw=>exact FitsIs.no (fun V _ _=>by omega) w' first v ts rs (Gc.same h hr hc hro hw)
 | yes h1 w' hw=>
  refine FitsIs.yes (fun V hn hV=>?_) w' first v ts rs (Gc.same h hr hc hro hw) (by omega)
  have:=zeo (a:=first) (ts:=ts) hn (fun x hx=>zhs hc hro ((hV x).1 hx))
  omega
 | coll h1 n w' hC=>
  cases hC with
  | mk V v' w' hn hV hs hh hr' hk hf=>
   have hG:=Gc.moved h hV hs hh hr' hk hf
   have hsame:∀ W:List Int,W.Nodup->(∀ x,x∈W↔Reach (zO first ts) rs x)->zU (zO first ts) W=zU (zO first ts) V:=fun W hW h2=>zls _ hW hn (fun b=>(h2 b).trans (hV b).symm)
   by_cases h2:(m:Int)+1<=cells - (zU (zO first ts) V:Nat)
   ·rw[decide_eq_true h2]
    exact FitsIs.yes (fun W hW h3=>by rw[hsame W hW h3];omega) _ _ _ _ _ hG (by rw[zi4];omega)
   ·rw[decide_eq_false h2]
    exact FitsIs.no (fun W hW h3=>by rw[hsame W hW h3];omega) _ _ _ _ _ hG
theorem zog(a:Int)(ts:List Th)(t:Th):encL (fun _=>0) a (ts++[t])=encL (fun _=>0) a ts++encT 0 t:=by
 rw[zcs,encL,encL,List.append_nil]
theorem zwf(kind tag:Int)(m:Nat)(L:List Wd):(L++List.replicate (m+1) zw).set L.length ⟨m,0,tag,kind,2⟩=L++encT 0 ⟨kind,tag,List.replicate m default⟩:=by
 rw[List.set_append_right _ _ (Nat.le_refl _),Nat.sub_self,List.replicate_succ,List.set_cons_zero]
 simp only[encT,hdw,List.length_replicate,List.map_replicate]
 rfl
theorem conv5(n:Int)(h:0<=n/\n<=4)(w:World):(convert 3 5 (.int .i64 n)).run Tryz.prog w=.ok (.int .u8 n) w:=by
 have:(convert 3 5 (.int .i64 n)).run Tryz.prog w=.ok (.int .u8 (IntKind.u8.wrap n)) w:=by kernel_rfl
 rw[this,u8_in _ (by omega)]
theorem zxx(n:Int)(h:0<=n/\n<=65535)(w:World):(convert 3 184 (.int .i64 n)).run Tryz.prog w=.ok (.int .u16 n) w:=by
 have:(convert 3 184 (.int .i64 n)).run Tryz.prog w=.ok (.int .u16 (IntKind.u16.wrap n)) w:=by kernel_rfl
 rw[this,u16_in _ (by omega)]
theorem zta(w:World)(hb mm:Nat)(kind tag n:Int)(h:kind < 0\/4 < kind\/tag < 0\/65535 < tag\/n < 0\/1000000 < n) :
  Calls Tryz.prog 102 #[.pointer (some ⟨hb,0,none⟩),.int .i64 kind,.int .i64 tag,.int .i64 n,.func (.func 103) #[.pointer (some ⟨mm,0,none⟩)] #[]] w fun e w'=>e=.returned (.tuple #[.int .i64 0,.int .i64 21])/\w'=w:=by
 by_cases h1:kind < 0
 ·go_enter Tryz.func102,Tryz.ntmps102
  go_wp2_with fail
  exact bR (by simp[results,Tryz.results102,go_sem]) ⟨rfl,rfl⟩
 by_cases h2:4 < kind
 ·go_enter Tryz.func102,Tryz.ntmps102
  go_wp2_with fail
  exact bR (by simp[results,Tryz.results102,go_sem]) ⟨rfl,rfl⟩
 by_cases h3:tag < 0
 ·go_enter Tryz.func102,Tryz.ntmps102
  go_wp2_with fail
  exact bR (by simp[results,Tryz.results102,go_sem]) ⟨rfl,rfl⟩
 by_cases h4:65535 < tag
 ·go_enter Tryz.func102,Tryz.ntmps102
  go_wp2_with fail
  exact bR (by simp[results,Tryz.results102,go_sem]) ⟨rfl,rfl⟩
 by_cases h5:n < 0
 ·go_enter Tryz.func102,Tryz.ntmps102
  go_wp2_with fail
  exact bR (by simp[results,Tryz.results102,go_sem]) ⟨rfl,rfl⟩
 have h6:1000000 < n:=by omega
 clear h
 go_enter Tryz.func102,Tryz.ntmps102
 go_wp2_with fail
 exact bR (by simp[results,Tryz.results102,go_sem]) ⟨rfl,rfl⟩
theorem ztb(w:World)(hb:Nat)(cells first:Int)(v:Value)(ts:List Th)(h:HpO w hb cells first v (encL (fun _=>0) first ts))(hcs:0<=cells/\cells<=1000000)(hf:first<=8000000000000000000)(hc:zdn first ts)(rs:List Cl)(hro:zc5 (zO first ts) rs)(S:List Sp)(mm:Nat)(A:Array Value)(hMR:MR S A)(hW:w.heap[mm]? = some (.cells A 64))(hr:RW w S w rs)(kind tag n:Int) :
  Calls Tryz.prog 102 #[.pointer (some ⟨hb,0,none⟩),.int .i64 kind,.int .i64 tag,.int .i64 n,.func (.func 103) #[.pointer (some ⟨mm,0,none⟩)] #[]] w fun e w'=>MakePost w hb cells first v ts rs S kind tag n e w':=by
 by_cases hbad:kind < 0\/4 < kind\/tag < 0\/65535 < tag\/n < 0\/1000000 < n
 ·refine cM (zta w hb mm kind tag n hbad) ?_
  rintro e w' ⟨rfl,rfl⟩
  exact MakePost.arg hbad w' (Below.refl _ _)
 obtain⟨m,rfl⟩:∃ m:Nat,n=m:=⟨n.toNat,by omega⟩
 have hm1:m<=1000000:=by omega
 have hok:0<=kind/\kind<=4/\0<=tag/\tag<=65535/\(m:Int)<=1000000:=by omega
 have b1:¬ (kind < 0):=by omega
 have b2:¬ (4 < kind):=by omega
 have b3:¬ (tag < 0):=by omega
 have b4:¬ (65535 < tag):=by omega
 have b5:¬ ((m:Int) < 0):=by omega
 have b6:¬ (1000000 < (m:Int)):=by omega
 have wm:=wr64s m hm1
 have Hfits:Hid (Calls Tryz.prog 117 #[.pointer (some ⟨hb,0,none⟩),.int .i64 ((m:Int)+1),.func (.func 103) #[.pointer (some ⟨mm,0,none⟩)] #[]] w fun e w'=>FitsIs w hb cells first v ts rs S m e w'):=
  cM (zit w hb cells first v ts h hcs hf hc rs hro S mm A hMR hW hr ((m:Int)+1) (by omega)) (fun e w' g=>zwd h hr hc hro g)
 clear hbad h hr hc hro hW
 go_enter Tryz.func102,Tryz.ntmps102
 go_wp2_with fail
 refine cM Hfits.o ?_
 intro e w2 hF
 cases hF with
 | no hV w2 first1 v1 ts1 rs1 hg=>
  have Q:Hid _:=MakePost.mem m rfl hok hV w2 first1 v1 ts1 rs1 hg
  clear hV hg
  go_wp2_with fail
  exact bR (by simp[results,Tryz.results102,go_sem]) Q.o
 | yes hV w2 first1 v1 ts1 rs1 hg hfit=>
  obtain⟨p,cap,rfl,hA,ha⟩:=hg.hp.at
  rw[zak] at *
  have Hend:Hid (Calls Tryz.prog 110 #[.pointer (some ⟨hb,0,none⟩)] w2 fun e w'=>e=.returned (.int .i64 (first1+total ts1))/\Below w2.heap.size w2 w'):=cM (zlm w2 hb 0 cells first1 p cap _ hA) (fun e w' g=>⟨by rw[g.1,zak],g.2⟩)
  have HG:=zh hg
  have HV:=zh hV
  have Hfit:=zh hfit
  clear hg hV hA ha hfit
  go_wp2_with fail
  refine cM Hend.o ?_
  rintro e w3 ⟨rfl,hb3⟩
  have hk3:Kp [] w2 w3:=Kp.zB hb3
  have hO3:=HG.o.hp.kp hk3 (by simp) (by simp)
  have hbx3:=hO3.box
  have HO3:=zh hO3
  have Hk3:=zh hk3
  have Htake:Hid _:=zlx w3 hb 0 (.slice p (total ts1) cap) _ (by simp only[World.cell?,hbx3];rfl) (by simp only[World.frozen?,hbx3];rfl) (hO3.own.ne hbx3 (by decide)) hO3.own (m+1) (by omega) hO3.len (by rw[zak];have:=Hfit.o;omega)
  clear hb3 hk3 hO3 hbx3
  go_wp2_with fail
  refine cM Htake.o ?_
  rintro e w4 ⟨g,gc,w4,ho4,hg4,hat,hgc⟩
  simp only[show(0:Nat)+2=2 by rfl]
  have hfit:=Hfit.o
  rw[zak] at ho4 hgc
  simp only[zak]
  have hbl3:=(sz HO3.o.box)
  have hbx4:=(hg4.block hb hbl3 (fun e=>HO3.o.own.ne HO3.o.box (by decide) e.symm)).trans HO3.o.box
  have hgb:g≠hb:=fun e=>by
   rcases hat with h | h
   ·exact HO3.o.own.ne HO3.o.box (by decide) (e ▸ h)
   ·omega
  have hk4:Kp (Value.ownBlock (.slice p (total ts1) cap)).toList w3 w4:=Kp.of_grown hg4 (by intro k hk;rw[hk];simp)
  have hk5:Kp [hb] w4 (w4.setCell ⟨hb,2,none⟩ (.slice (some ⟨g,0,none⟩) (total ts1+(m+1)) gc)):=Kp.setCell _ _ (by simp) _
  have hbx5:(w4.setCell ⟨hb,2,none⟩ (.slice (some ⟨g,0,none⟩) (total ts1+(m+1)) gc)).heap[hb]? = some (.cells #[.int .i64 cells,.int .i64 first1,.slice (some ⟨g,0,none⟩) (total ts1+(m+1)) gc] 91):=by simp[World.setCell,Array.getElem?_modify,hbx4]
  have hown5:=ho4.kp hk5 (by intro k hk;cases hk;simpa using hgb)
  have hs3:=Hk3.o.size
  have hs4:=hg4.size
  generalize w4.setCell _ _=w5 at *
  have hlen5:(encL (fun _=>0) first1 ts1++List.replicate (m+1) zw).length=total ts1+(m+1):=by simp[zak]
  have hkl:total ts1 < (encL (fun _=>0) first1 ts1++List.replicate (m+1) zw).length:=by omega
  obtain⟨q5,c5,hv5,-,hr5,-,-⟩:=hown5.at (by rw[hlen5];omega)
  rw[hlen5] at hv5
  cases hv5
  obtain⟨y5,hy5⟩:∃ y,(encL (fun _=>0) first1 ts1++List.replicate (m+1) zw)[total ts1]? = some y:=⟨_,gE hkl⟩
  obtain⟨g',hp5,⟨d0,d1,d2,d3,d4⟩,hgl⟩:=hr5.at_ hy5
  clear hy5
  cases hp5
  rw[Nat.zero_add] at d0 d1 d2 d3 d4
  have hfz:∀ o,w5.frozen? ⟨g,o,none⟩=false:=fun o=>zce hown5 rfl o
  have z0:=hfz (total ts1 * 5)
  have z1:=hfz (total ts1 * 5+1)
  have z2:=hfz (total ts1 * 5+2)
  have z3:=hfz (total ts1 * 5+3)
  have z4:=hfz (total ts1 * 5+4)
  have hset:=zl6 hown5 (g:=g) rfl (total ts1) hkl ⟨m,0,tag,kind,2⟩
  have henc:=zwf kind tag m (encL (fun _=>0) first1 ts1)
  rw[zak] at henc
  rw[henc,<-zog] at hset
  have hk6:Kp [g] w5 (put5 w5 g (total ts1 * 5) ⟨m,0,tag,kind,2⟩):=zia _ _ _ _
  have hbx6:=(hk6.block hb (sz hbx5) (by simpa using fun e:hb=g=>hgb e.symm)).trans hbx5
  have hHp:HpO (put5 w5 g (total ts1 * 5) ⟨m,0,tag,kind,2⟩) hb cells first1 (.slice (some ⟨g,0,none⟩) (total ts1+(m+1)) gc) (encL (fun _=>0) first1 (ts1++[⟨kind,tag,List.replicate m default⟩])):=
   ⟨hbx6,hset,by rw[zak,zd4];simp[total,Th.sz];omega,HO3.o.pos⟩
  have Q:Hid (MakePost w hb cells first v ts rs S kind tag m (.returned (.tuple #[.int .i64 (first1+total ts1),.int .i64 0])) (put5 w5 g (total ts1 * 5) ⟨m,0,tag,kind,2⟩)):=by
   refine MakePost.new m rfl hok HV.o w2 _ first1 _ _ ts1 rs1 HG.o hHp ?_ ?_
   ·refine((((Hk3.o.mono (by simp)).then hk4 (fun y hy=>Or.inl (by simp at hy ⊢;exact Or.inr hy))).then hk5 (by simp)).then hk6 ?_)
    intro y hy
    simp at hy
    subst hy
    rcases hat with h | h
    ·exact Or.inl (by simp[h])
    ·exact Or.inr (by omega)
   ·rcases hat with h | h
    ·exact Or.inl (by rw[h];rfl)
    ·exact Or.inr ⟨g,rfl,by omega⟩
  have v5:=conv5 kind (by omega)
  have v77:=zxx tag (by omega)
  have hmm:(0:Int) < ((m+1:Nat):Int):=by omega
  clear hHp hbx6 hk6 hset henc hfz hr5 hown5 hbx5 hk5 hk4 hbx4 ho4 hg4 hat hgb hs3 hs4 hlen5 hkl
  unfold put5 at Q
  simp only at Q
  go_wp2_with fail
  exact bR (by simp[results,Tryz.results102,go_sem]) Q.o
end Go.Proofs.YtkcmachfagcnaaaGreatDoor
