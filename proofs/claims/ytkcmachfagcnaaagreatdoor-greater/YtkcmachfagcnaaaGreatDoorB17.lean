/- Part of Greater. -/
import Derived.Test.YtkcmachfagcnaaaGreatDoorB16
import Derived.Test.YtkcmachfagcnaaaGreatDoorB02
set_option maxHeartbeats 8000000
set_option maxRecDepth 100000
namespace Go.Proofs.YtkcmachfagcnaaaGreatDoor
open Go.RowKit Go.Deep Go.Shelf Go.IntWalk
section
attribute [local go_sem] Oper.semAt_some
def zhb(g:Nat):Nat->List Sp
 | 0=>[]
 | n+1=>zhb g n++[⟨g,n * 9+1⟩,⟨g,n * 9+3⟩]
def rowSp(g:Nat):Nat->List Sp
 | 0=>[]
 | n+1=>rowSp g n++[⟨g,n * 2⟩]
theorem zbq(g:Nat):∀ n,(zhb g n).length=2 * n
 | 0=>rfl
 | n+1=>by rw[zhb,lA,zbq g n];simp;omega
theorem zcw(g:Nat):∀ n,(rowSp g n).length=n
 | 0=>rfl
 | n+1=>by rw[rowSp,lA,zcw g n];rfl
theorem zha(g:Nat):∀ n i,i < n->(zhb g n)[2 * i]? = some ⟨g,i * 9+1⟩/\(zhb g n)[2 * i+1]? = some ⟨g,i * 9+3⟩
 | n+1,i,hi=>by
  have hl:=zbq g n
  rw[zhb]
  by_cases e:i=n
  ·subst e
   rw[List.getElem?_append_right (by omega),List.getElem?_append_right (by omega),hl]
   simp
  ·rw[List.getElem?_append_left (by omega),List.getElem?_append_left (by omega)]
   exact zha g n i (by omega)
theorem ze6(g:Nat):∀ n i,i < n->(rowSp g n)[i]? = some ⟨g,i * 2⟩
 | n+1,i,hi=>by
  have hl:=zcw g n
  rw[rowSp]
  by_cases e:i=n
  ·subst e
   rw[List.getElem?_append_right (by omega),hl]
   simp
  ·rw[List.getElem?_append_left (by omega)]
   exact ze6 g n i (by omega)
def zbu(gc nc gs ns gv nv:Nat):List Sp:=zhb gc nc++(rowSp gs ns++rowSp gv nv)
theorem zb8(gc nc gs ns gv nv:Nat):(zbu gc nc gs ns gv nv).length=2 * nc+(ns+nv):=by simp[zbu,zbq,zcw]
def encSp(S:List Sp)(i:Nat):Value:=.pointer (some ⟨(S[i]?.getD ⟨0,0⟩).b,(S[i]?.getD ⟨0,0⟩).o,none⟩)
theorem zmu(gc nc gs ns gv nv:Nat){i:Nat}(hi:i < nc):encSp (zbu gc nc gs ns gv nv) (2 * i)=.pointer (some ⟨gc,i * 9+1,none⟩)/\encSp (zbu gc nc gs ns gv nv) (2 * i+1)=.pointer (some ⟨gc,i * 9+3,none⟩):=by
 have hl:=zbq gc nc
 obtain⟨h1,h2⟩:=zha gc nc i hi
 unfold encSp zbu
 rw[List.getElem?_append_left (by omega),List.getElem?_append_left (by omega),h1,h2]
 exact⟨rfl,rfl⟩
theorem zt3(gc nc gs ns gv nv:Nat){i:Nat}(hi:i < ns):encSp (zbu gc nc gs ns gv nv) (2 * nc+i)=.pointer (some ⟨gs,i * 2,none⟩):=by
 have hl:=zbq gc nc
 have hl2:=zcw gs ns
 unfold encSp zbu
 rw[List.getElem?_append_right (by omega),hl,Nat.add_sub_cancel_left,List.getElem?_append_left (by omega),ze6 gs ns i hi]
 rfl
theorem zrb(gc nc gs ns gv nv:Nat){i:Nat}(hi:i < nv):encSp (zbu gc nc gs ns gv nv) (2 * nc+ns+i)=.pointer (some ⟨gv,i * 2,none⟩):=by
 have hl:=zbq gc nc
 have hl2:=zcw gs ns
 unfold encSp zbu
 rw[List.getElem?_append_right (by omega),hl,show 2 * nc+ns+i - 2 * nc=ns+i by omega,List.getElem?_append_right (by omega),hl2,Nat.add_sub_cancel_left,ze6 gv nv i hi]
 rfl
theorem ztp(q:Option Addr)(n c:Nat)(q':Option Addr)(n' c':Nat)(w:World):(Instr.index 218 (.agg #[.slice q n c,.slice q' n' c']) (.int .i64 0)).run Tryz.prog w=.ok (.slice q n c) w:=by kernel_rfl
theorem zto(q:Option Addr)(n c:Nat)(q':Option Addr)(n' c':Nat)(w:World):(Instr.index 218 (.agg #[.slice q n c,.slice q' n' c']) (.int .i64 1)).run Tryz.prog w=.ok (.slice q' n' c') w:=by kernel_rfl
theorem zv6(n:Nat)(hn:1<=n)(mm:Nat)(qc:Option Addr)(nc cc gc:Nat)(hqc:0 < nc->qc=some ⟨gc,0,none⟩)(hnc:nc<=1000000)(qs:Option Addr)(ns cs gs:Nat)(hqs:0 < ns->qs=some ⟨gs,0,none⟩)(hns:ns<=1000000000000)(qv:Option Addr)(nv cv gv:Nat)(hqv:0 < nv->qv=some ⟨gv,0,none⟩)(hnv:nv<=1000000000000)(l:Nat)(J:Nat->World->Prop)(W:World)
  (hJ:∀ i W,J i W->(W.cell? ⟨mm,30,none⟩=some (.slice qc nc cc)/\W.cell? ⟨mm,31,none⟩=some (.slice qs ns cs)/\W.cell? ⟨mm,32,none⟩=some (.slice qv nv cv))/\mm < W.heap.size) (hJd:∀ i W,J i W->J i W.drew)
  (hY:∀ i W,i < (zbu gc nc gs ns gv nv).length->J i W->YieldAt Fence.wide (n - 1) Tryz.prog l #[encSp (zbu gc nc gs ns gv nv) i] W fun e W'=>e=.returned (.bool true)/\J (i+1) W') (h0:J 0 W) :
  CallsIn Fence.wide n Tryz.prog 103 #[.pointer (some ⟨mm,0,none⟩),.func (.yield l) #[] #[]] W fun e W'=>(∃ v,e=.returned v)/\J (zbu gc nc gs ns gv nv).length W':=by
 rw[zb8] at hY ⊢
 refine callsIn_of_wp Tryz.func103 rfl trivial ?_ rfl
 simp only[Tryz.ntmps103,List.size_toArray,List.length_cons,List.length_nil,Nat.reduceAdd,Nat.reduceSub,Array.replicate_succ,Array.replicate_zero,List.push_toArray,List.append_toArray,List.nil_append,List.cons_append]
 have HJ:Hid (∀ i W,J i W->(W.cell? ⟨mm,30,none⟩=some (.slice qc nc cc)/\W.cell? ⟨mm,31,none⟩=some (.slice qs ns cs)/\W.cell? ⟨mm,32,none⟩=some (.slice qv nv cv))/\mm < W.heap.size):=hJ
 have HY:Hid (∀ i W,i < 2 * nc+(ns+nv)->J i W->YieldAt Fence.wide (n - 1) Tryz.prog l #[encSp (zbu gc nc gs ns gv nv) i] W fun e W'=>e=.returned (.bool true)/\J (i+1) W'):=hY
 have HJd:Hid (∀ i W,J i W->J i W.drew):=hJd
 have H0:Hid (J 0 W):=h0
 have Hqc:Hid (0 < nc->qc=some ⟨gc,0,none⟩):=hqc
 have Hqs:Hid (0 < ns->qs=some ⟨gs,0,none⟩):=hqs
 have Hqv:Hid (0 < nv->qv=some ⟨gv,0,none⟩):=hqv
 obtain⟨⟨c0,c1,c2⟩,cl⟩:=hJ 0 W h0
 clear hJ hY hJd h0 hqc hqs hqv
 gi_wp2
 clear c0 c1 c2 cl
 gi_loopw [14] (fun iv wr=>∃ (i:Nat),i<=nc/\iv=.int .i64 (i:Nat)/\Hid (J (2 * i) wr)) (fun i _=>nc - (intOf i).toNat)
 case atStart=>exact⟨0,Nat.zero_le _,rfl,H0.o⟩
 case round=>
  obtain⟨i,hi,rfl,HL⟩:=hrel
  clear H0
  by_cases hiN:i < nc
  ·obtain⟨⟨c0,c1,c2⟩,cl⟩:=HJ.o _ wr HL.o
   obtain rfl:=Hqc.o (by omega)
   obtain⟨fn,tmps,assign,body,hy,hR⟩:=HY.o (2 * i) wr (by omega) HL.o
   rw[(zmu gc nc gs ns gv nv hiN).1] at hy
   have h1:(i:Int) < (nc:Int):=by omega
   have h2:wrap64 ((i:Int)+1)=(i:Int)+1:=wrap64_in _ (by omega)
   clear HL
   gi_wp2
   refine hR.mono ?_
   rintro e W3 ⟨rfl,hJ3⟩
   have HJ3:Hid (J (2 * i+1) W3):=hJ3
   obtain⟨fn,tmps,assign,body,hy,hR⟩:=HY.o (2 * i+1) W3 (by omega) hJ3
   rw[(zmu gc nc gs ns gv nv hiN).2] at hy
   clear hJ3 c0 c1 c2 cl
   gi_wp2
   refine hR.mono ?_
   rintro e W4 ⟨rfl,hJ4⟩
   have HJ4:Hid (J (2 * (i+1)) W4):=hJ4
   clear hJ4 hR hy HJ3
   gi_wp2
   go_roundw
   case rel=>exact⟨i+1,by omega,by first | rfl | (congr 1;omega) | go_num,HJ4.o⟩
   case measure=>simp[intOf];omega
  ·have e:nc=i:=by omega
   subst e
   have h1:¬ ((nc:Int) < (nc:Int)):=by omega
   obtain⟨⟨c0,c1,c2⟩,cl⟩:=HJ.o _ wr HL.o
   have HD:Hid (J (2 * nc) wr.drew):=HJd.o _ _ HL.o
   clear HL
   gi_wp2
   gi_region
   clear c0 c1 c2 cl
   generalize wr.drew=w2 at *
   gi_wp2
   gi_loopw [47] (fun iv wr=>∃ (k:Nat),k<=2/\iv=.int .i64 (k:Nat)/\Hid (J (2 * nc+(if k=0 then 0 else if k=1 then ns else ns+nv)) wr)) (fun i _=>2 - (intOf i).toNat)
   case atStart=>exact⟨0,Nat.zero_le _,rfl,HD.o⟩
   case round=>
    obtain⟨k,hk,rfl,HL⟩:=hrel
    clear HD
    have hk3:k=0\/k=1\/k=2:=by omega
    have i0:=ztp
    have i1:=zto
    rcases hk3 with rfl | rfl | rfl
    all_goals simp only[Int.cast_ofNat_Int] at *
    ·have HK:Hid (J (2 * nc+0) wr):=HL.o
     clear HL
     gi_wp2
     gi_loopw [52] (fun iv wr=>∃ (i:Nat),i<=ns/\iv=.int .i64 (i:Nat)/\Hid (J (2 * nc+i) wr)) (fun i _=>ns - (intOf i).toNat)
     case atStart=>exact⟨0,Nat.zero_le _,rfl,HK.o⟩
     case round=>
      obtain⟨i,hi,rfl,HL⟩:=hrel
      clear HK
      by_cases hiN:i < ns
      ·obtain rfl:=Hqs.o (by omega)
       obtain⟨fn,tmps,assign,body,hy,hR⟩:=HY.o (2 * nc+i) wr (by omega) HL.o
       rw[zt3 gc nc gs ns gv nv hiN] at hy
       have h1:(i:Int) < (ns:Int):=by omega
       have h2:wrap64 ((i:Int)+1)=(i:Int)+1:=wrap64_in _ (by omega)
       clear HL
       gi_wp2
       refine hR.mono ?_
       rintro e W3 ⟨rfl,hJ3⟩
       have HJ3:Hid (J (2 * nc+(i+1)) W3):=hJ3
       clear hJ3 hR hy
       gi_wp2
       go_roundw
       case rel=>exact⟨i+1,by omega,by first | rfl | (congr 1;omega) | go_num,HJ3.o⟩
       case measure=>simp[intOf];omega
      ·have e:i=ns:=by omega
       subst e
       have h1:¬ ((i:Int) < (i:Int)):=by omega
       gi_wp2
       go_roundw
       case rel=>exact⟨1,by omega,by first | rfl | go_num,HL.o⟩
       case measure=>simp[intOf]
    ·have HK:Hid (J (2 * nc+ns+0) wr):=HL.o
     clear HL
     gi_wp2
     gi_loopw [52] (fun iv wr=>∃ (i:Nat),i<=nv/\iv=.int .i64 (i:Nat)/\Hid (J (2 * nc+ns+i) wr)) (fun i _=>nv - (intOf i).toNat)
     case atStart=>exact⟨0,Nat.zero_le _,rfl,HK.o⟩
     case round=>
      obtain⟨i,hi,rfl,HL⟩:=hrel
      clear HK
      by_cases hiN:i < nv
      ·obtain rfl:=Hqv.o (by omega)
       obtain⟨fn,tmps,assign,body,hy,hR⟩:=HY.o (2 * nc+ns+i) wr (by omega) HL.o
       rw[zrb gc nc gs ns gv nv hiN] at hy
       have h1:(i:Int) < (nv:Int):=by omega
       have h2:wrap64 ((i:Int)+1)=(i:Int)+1:=wrap64_in _ (by omega)
       clear HL
       gi_wp2
       refine hR.mono ?_
       rintro e W3 ⟨rfl,hJ3⟩
       have HJ3:Hid (J (2 * nc+ns+(i+1)) W3):=hJ3
       clear hJ3 hR hy
       gi_wp2
       go_roundw
       case rel=>exact⟨i+1,by omega,by first | rfl | (congr 1;omega) | go_num,HJ3.o⟩
       case measure=>simp[intOf];omega
      ·have e:i=nv:=by omega
       subst e
       have h1:¬ ((i:Int) < (i:Int)):=by omega
       gi_wp2
       go_roundw
       case rel=>exact⟨2,by omega,by first | rfl | go_num,by have:=HL.o;rw[Nat.add_assoc] at this;exact this⟩
       case measure=>simp[intOf]
    ·gi_wp2
     go_end0
     exact⟨⟨_,rfl⟩,HL.o⟩
end
section
attribute [local go_sem] Oper.semAt_some
theorem eql47(gf:Nat)(fa:Array Value)(w:World):(binOp .eql 205 (.func (.func gf) fa #[]) .nilFunc).run Tryz.prog w=.ok (.bool false) w:=by kernel_rfl
inductive RootsPost(w:World)(mb:Nat)(cells a tf:Int)(ts:List Th)(rs:List Cl)(fv tv0:Value)(S:List Sp):Ending->World->Prop
 | mk (v:Value) (w':World) (tv:Value) (V:List Int) (h:RS w mb cells a tf ts rs fv tv0 S w' tv V rs.length):RootsPost w mb cells a tf ts rs fv tv0 S (.returned v) w'
inductive RI(w:World)(mb:Nat)(cells a tf:Int)(ts:List Th)(rs:List Cl)(fv tv0:Value)(S:List Sp)(i:Nat)(W:World):Prop
 | mk (tv:Value) (V:List Int) (h:RS w mb cells a tf ts rs fv tv0 S W tv V i) (hb:W.heap[w.heap.size]? = some (.cells #[.pointer (some ⟨mb,0,none⟩)] 240)):RI w mb cells a tf ts rs fv tv0 S i W
theorem OwnW.obj{w:World}{v:Value}{l:List Wd}(h:OwnW w v l){g:Nat}(hg:v.ownBlock=some g):∃ cur,w.heap[g]? = some (.cells cur 186):=by
 rcases h.2 with⟨rfl,h0⟩ | ⟨g',cap,cur,rfl,h1,h2,_⟩
 ·cases hg
 ·simp[Value.ownBlock] at hg
  subst hg
  exact⟨cur,h2⟩
inductive MR(S:List Sp)(A:Array Value):Prop
 | mk (qc:Option Addr) (nc cc gc:Nat) (qs:Option Addr) (ns cs gs:Nat) (qv:Option Addr) (nv cv gv:Nat) (hS:S=zbu gc nc gs ns gv nv) (h30:A[30]? = some (.slice qc nc cc)) (h31:A[31]? = some (.slice qs ns cs)) (h32:A[32]? = some (.slice qv nv cv)) (hqc:0 < nc->qc=some ⟨gc,0,none⟩) (hnc:nc<=1000000) (hqs:0 < ns->qs=some ⟨gs,0,none⟩) (hns:ns<=1000000000000) (hqv:0 < nv->qv=some ⟨gv,0,none⟩) (hnv:nv<=1000000000000):MR S A
theorem zt5{S:List Sp}{i:Nat}(hi:i < S.length):encSp S i=.pointer (some ⟨(S[i]'hi).b,(S[i]'hi).o,none⟩):=by
 unfold encSp
 rw[gE hi]
 rfl
theorem zpd(w:World)(mb:Nat)(cells a tf:Int)(ts:List Th)(rs:List Cl)(fv tv0:Value)(S:List Sp)(mm:Nat)(A:Array Value)(hMR:MR S A)(hm:Mvg w mb cells a tf ts rs fv tv0 [] 0)(hro:zc5 (zO a ts) rs)(hW:w.heap[mm]? = some (.cells A 64))(hr:RW w S w rs) :
  Calls Tryz.prog 134 #[.pointer (some ⟨mb,0,none⟩),.func (.func 103) #[.pointer (some ⟨mm,0,none⟩)] #[]] w fun e w'=>RootsPost w mb cells a tf ts rs fv tv0 S e w':=by
 have hSl:=hr.len
 refine(callsIn_wide (n:=4)).1 ?_
 refine callsIn_of_wp_marks Tryz.func134 rfl trivial ?_ rfl
 simp only[Tryz.ntmps134,List.size_toArray,List.length_cons,List.length_nil,Nat.reduceAdd,Nat.reduceSub,Array.replicate_succ,Array.replicate_zero,List.push_toArray,List.append_toArray,List.nil_append,List.cons_append]
 have hk1:Kp [] w (w.alloc (.cells #[.pointer (some ⟨mb,0,none⟩)] 240)):=Kp.alloc _ _ _
 have hb1:(w.alloc (.cells #[.pointer (some ⟨mb,0,none⟩)] 240)).heap[w.heap.size]? = some (.cells #[.pointer (some ⟨mb,0,none⟩)] 240):=zab w _
 have hs1:(w.alloc (.cells #[.pointer (some ⟨mb,0,none⟩)] 240)).heap.size=w.heap.size+1:=by simp
 have Hk1:=zh hk1
 have Hb1:=zh hb1
 have Hs1:=zh hs1
 have Hm:=zh hm
 have HW:=zh hW
 have Hr:=zh hr
 have hnil:=eql47
 clear hk1 hb1 hs1 hm hW hr
 gi_wp2
 generalize w.alloc _=w1 at *
 have hs1:=Hs1.o
 have HsX:=zh hs1
 clear hs1
 refine zk7 (n:=4) (gf:=103) (fa:=#[.pointer (some ⟨mm,0,none⟩)]) rfl (enters_of Tryz.func103 (by kernel_rfl) rfl) rs.length (fun i=>encSp S i)
  (RI w mb cells a tf ts rs fv tv0 S)
  (fun i=>{tmps:=#[.pointer (some ⟨mb,0,none⟩),(Value.func (Fn.func 103) #[.pointer (some ⟨mm,0,none⟩)] #[]),.pointer (some ⟨w.heap.size,0,none⟩),undef,encSp S i,(Value.func (Fn.func 103) #[.pointer (some ⟨mm,0,none⟩)] #[]),.bool false,(Value.func (Fn.func 103) #[.pointer (some ⟨mm,0,none⟩)] #[]),encSp S i,undef,undef,undef,undef,undef,undef,undef,undef,undef,undef,undef,undef,undef,undef,undef,undef,undef],defers:=[]}) ?h0 ?hI ?hiter ?assign ?body ?done
 case h0=>
  intro W hW
  refine⟨tv0,[],⟨Hm.o.kp (Hk1.o.trans hW) (by simp) (by simp) (by simp),?_,(Hk1.o.trans hW).mono (by simp),Or.inl rfl,by simp⟩,(hW.block _ (sz Hb1.o) (by simp)).trans Hb1.o⟩
  rw[zpf]
  exact Hr.o.keep (fun k hk=>(Hk1.o.trans hW).block k (Hr.o.lt hk) (by simp))
 case hI=>
  rintro i W W' k hk ⟨o,ho,hoc⟩ hw ⟨tv,V,hRS,hbx⟩
  have:=HsX.o
  refine⟨tv,V,hRS.kp (by omega) ⟨o,ho,hoc⟩ hw,(hw.block _ (sz hbx) ?_).trans hbx⟩
  simp
  intro e
  rw[e,ho] at hbx
  cases hbx
  cases hoc
 case hiter=>
  intro l J W hJI hJd hY hJ0
  obtain⟨qc,nc,cc,gc,qs,ns,cs,gs,qv,nv,cv,gv,hS,h30,h31,h32,hqc,hnc,hqs,hns,hqv,hnv⟩:=hMR
  subst hS
  rw[hSl] at hY ⊢
  refine zv6 3 (by omega) mm qc nc cc gc hqc hnc qs ns cs gs hqs hns qv nv cv gv hqv hnv l J W (fun i W hj=>?_) hJd hY hJ0
  obtain⟨tv,V,hRS,hbx⟩:=hJI i W hj
  have hwl:=(sz HW.o)
  have hwb:W.heap[mm]? = _:=(hRS.k.block mm hwl ?_).trans HW.o
  ·exact⟨⟨by simp only[World.cell?,hwb];exact h30,by simp only[World.cell?,hwb];exact h31,by simp only[World.cell?,hwb];exact h32⟩,(sz hwb)⟩
  ·have hnm:=Hr.o.ne HW.o (fun a t e=>by cases e;decide)
   have n1:mm≠mb:=fun e=>by
    have:=Hm.o.mem.box
    rw[<-e,HW.o] at this
    simp at this
   have n2:fv.ownBlock≠some mm:=fun e=>Hm.o.mem.fown.ne HW.o (by decide) e
   have n3:tv0.ownBlock≠some mm:=fun e=>Hm.o.mem.town.ne HW.o (by decide) e
   simp only[List.mem_append,not_or]
   exact⟨⟨⟨by simpa using n1,by simpa using n2⟩,by simpa using n3⟩,hnm⟩
 case assign=>
  intro l i W K hK
  gi_wp2
  exact hK
 case done=>
  rintro D W hD ⟨tv,V,hRS,hbx⟩ hd
  have hsX:=HsX.o
  have Q:Hid (∀ v,RootsPost w mb cells a tf ts rs fv tv0 S (.returned v) (W.putObj D (.deferred none))):=fun v=>RootsPost.mk v _ tv V (hRS.kp (k:=D) (by omega) ⟨_,hd,rfl⟩ (Kp.putObj _ _ (by simp) _))
  refine⟨by simp,.inl ⟨_,_,rfl,run_takeDeferred hd,?_⟩⟩
  refine⟨by simp,.inr ⟨by simp[Fence.wide],_,_,143,#[],rfl,?_,fun _ _=>trivial,?_⟩⟩
  ·simp[invoke,go_sem]
  ·refine CallsDIn.mono (rec30 _ _) ?_
   rintro e u w' ⟨⟨v,rfl⟩,rfl,rfl⟩
   exact⟨.tuple #[],by simp[results,Tryz.results134,go_sem],Q.o _⟩
 case body=>
  rintro l i W hlB hi ⟨tv,V,hRS,hbx⟩ ⟨r,hrl⟩
  have hiS:i < S.length:=by rw[<-hSl];exact hi
  have hgt:=zso (zO a ts) tf V rs i hi
  have hrl2:=zl5 (zO a ts) tf V rs i
  obtain⟨d0,d1⟩:=hRS.r.get i hiS (by rw[hrl2];exact hi)
  have hge:(rmap (zO a ts) tf V rs i)[i]'(by rw[hrl2];exact hi)=rs[i]'hi:=by
   rw[gE (by rw[hrl2];exact hi)] at hgt
   exact Option.some.inj hgt
  rw[hge] at d0 d1
  have hgS:(S[i]'hiS).b∈S.map Sp.b:=List.mem_map_of_mem (List.getElem_mem hiS)
  have henc:=zt5 hiS
  have hset0:=fun(W1:World) (h1:RW w S W1 (rmap (zO a ts) tf V rs i)) (m:Int)=>h1.setN i hiS (by rw[hrl2];exact hi) m
  generalize hsp:S[i]'hiS=sp at *
  obtain⟨g,o⟩:=sp
  simp only at d0 d1 hgS henc hset0
  rw[henc]
  clear henc hsp
  have hgl:=World.block_lt_of_cell? _ _ d0
  simp only at hgl
  have hmem:rs.take (i+1)=rs.take i++[rs[i]'hi]:=by rw[List.take_add_one,gE hi];rfl
  have hin:=List.getElem_mem hi
  generalize hcc:rs[i]'hi=c at *
  obtain⟨cp,cn⟩:=c
  simp only at d0 d1
  cases cp with
  | false=>
   have hnx:rmap (zO a ts) tf V rs (i+1)=rmap (zO a ts) tf V rs i:=by
    rw[zjg _ tf V rs i hi,hcc]
    have e:mvC (fw (zO a ts) tf V) ⟨false,cn⟩=⟨false,cn⟩:=rfl
    rw[e,<-hge,List.set_getElem_self]
   have Q:Hid (RI w mb cells a tf ts rs fv tv0 S (i+1) W):=by
    refine⟨tv,V,⟨hRS.m,by rw[hnx];exact hRS.r,hRS.k,hRS.f,fun x hx=>?_⟩,hbx⟩
    rw[hmem] at hx
    rcases List.mem_append.1 hx with hx | hx
    ·exact hRS.s x hx
    ·simp at hx
   clear hRS hnx hgt hset0 hge hmem hrl hro hbx hcc hin hrl2 hgS
   gi_wp2
   exact⟨Q.o,⟨fun _ _ _ _ h=>h⟩⟩
  | true=>
   have hxs:=hro cn hin
   have hdk:Kp [] W W.drew:=(Kp.refl _ _).drew
   have Hcall:Hid _:=zmf W.drew mb cells a tf ts rs fv tv V 0 (hRS.m.kp hdk (by simp) (by simp) (by simp)) cn hxs (Reach.root cn hin)
   have HRS:=zh hRS
   have Hgt:=zh hgt
   have Hcc:=zh hcc
   have Hmem:=zh hmem
   have Hbx:=zh hbx
   have Hob:=zh hgS
   have Hset0:Hid (∀ (W1:World) (h1:RW w S W1 (rmap (zO a ts) tf V rs i)) (m:Int),RW w S (W1.setCell ⟨g,o+1,none⟩ (.int .i64 m)) ((rmap (zO a ts) tf V rs i).set i ⟨true,m⟩)):=fun W1 h1 m=>by
    have:=hset0 W1 h1 m
    rw[hge] at this
    exact this
   have hfz:W.frozen? ⟨g,o+1,none⟩=false:=hRS.r.frozen hgS _
   have Hfz:=zh hfz
   clear hgt hset0 hge hmem hrl hro hcc hin hrl2 hRS hgS hxs hdk hfz
   have hC0:(W.cell? ⟨w.heap.size,0,none⟩=some (.pointer (some ⟨mb,0,none⟩))/\w.heap.size < W.heap.size)/\W.cell? ⟨g,o+1,none⟩=some (.int .i64 cn)/\g < W.heap.size:=⟨⟨by simp only[World.cell?,hbx];rfl,(sz hbx)⟩,d1,hgl⟩
   have HC0:=zh hC0
   clear hC0 hbx
   gi_wp2_with fail
   refine zh9 (m:=9) (C:=fun wx=>(wx.cell? ⟨w.heap.size,0,none⟩=some (.pointer (some ⟨mb,0,none⟩))/\w.heap.size < wx.heap.size)/\wx.cell? ⟨g,o+1,none⟩=some (.int .i64 cn)/\g < wx.heap.size) (by kernel_rfl) (by kernel_rfl) ?_ ?_
   ·rintro⟨a9,w9,h9⟩
    exact absurd h9.1 (by simp)
   clear d0 d1 hgl
   refine qL 0 rfl ?_
   apply xI
   (intro wx hwx;obtain⟨⟨f0,f1⟩,f2,f3⟩:=hwx;go_simp <;> rfl)
   refine qL 1 rfl ?_
   apply xI
   (intro wx hwx;obtain⟨⟨f0,f1⟩,f2,f3⟩:=hwx;go_simp <;> rfl)
   refine qL 2 rfl ?_
   apply xI
   (intro wx hwx;obtain⟨⟨f0,f1⟩,f2,f3⟩:=hwx;go_simp <;> rfl)
   refine qL 3 rfl ?_
   apply xI
   (intro wx hwx;obtain⟨⟨f0,f1⟩,f2,f3⟩:=hwx;go_simp <;> rfl)
   refine qL 4 rfl ?_
   apply xI
   (intro wx hwx;obtain⟨⟨f0,f1⟩,f2,f3⟩:=hwx;go_simp <;> rfl)
   refine qL 5 rfl ?_
   apply xI
   (intro wx hwx;obtain⟨⟨f0,f1⟩,f2,f3⟩:=hwx;go_simp <;> rfl)
   refine oL 6 HC0.o rfl (fun K hK=>?_)
   go_simp
   refine cM Hcall.o ?_
   rintro e w2 ⟨V',tv',w2,hg,hm,hk,hfr⟩
   refine hK _ _ ?_
   clear hK K
   have hX:∀ x∈[mb]++fv.ownBlock.toList++tv.ownBlock.toList,x < W.heap.size/\x∉S.map Sp.b/\x≠w.heap.size/\∃ a t,W.heap[x]? = some (.cells a t):=by
    intro x hx
    have hone:∀ a t,W.heap[x]? = some (.cells a t)->t≠67->t≠69->t≠240->x < W.heap.size/\x∉S.map Sp.b/\x≠w.heap.size/\∃ a t,W.heap[x]? = some (.cells a t):=fun a t ha h0 h1 h2=>by
     refine⟨(sz ha),HRS.o.r.ne ha (fun a2 t2 e=>?_),fun e=>?_,⟨a,t,ha⟩⟩
     ·simp only[Obj.cells.injEq] at e
      rw[<-e.2.1]
      exact⟨h0,h1⟩
     ·rw[e,Hbx.o] at ha
      simp only[Option.some.injEq,Obj.cells.injEq] at ha
      exact h2 ha.2.1.symm
    simp at hx
    rcases hx with rfl | hx | hx
    ·exact hone _ _ HRS.o.m.mem.box (by decide) (by decide) (by decide)
    ·obtain⟨cur2,h2⟩:=HRS.o.m.mem.fown.obj hx
     exact hone _ _ h2 (by decide) (by decide) (by decide)
    ·obtain⟨cur2,h2⟩:=HRS.o.m.mem.town.obj hx
     exact hone _ _ h2 (by decide) (by decide) (by decide)
   have hgN:g∉[mb]++fv.ownBlock.toList++tv.ownBlock.toList:=fun h=>(hX g h).2.1 Hob.o
   have hbN:w.heap.size∉[mb]++fv.ownBlock.toList++tv.ownBlock.toList:=fun h=>(hX _ h).2.2.1 rfl
   have hgW:=HC0.o.2.2
   have hr2:=HRS.o.r.keep (fun x hx=>hk.block x (HRS.o.r.lt hx) (fun hx2=>(hX x hx2).2.1 hx))
   have hC2:(w2.cell? ⟨w.heap.size,0,none⟩=some (.pointer (some ⟨mb,0,none⟩))/\w.heap.size < w2.heap.size)/\w2.cell? ⟨g,o+1,none⟩=some (.int .i64 cn)/\g < w2.heap.size:=
    ⟨⟨hk.cell (p:=⟨w.heap.size,0,none⟩) HC0.o.1.1 hbN,lL HC0.o.1.2 hk.size⟩,hk.cell (p:=⟨g,o+1,none⟩) HC0.o.2.1 hgN,lL hgW hk.size⟩
   have HC2:=zh hC2
   have f4:w2.frozen? ⟨g,o+1,none⟩=false:=hr2.frozen Hob.o _
   have Hf4:=zh f4
   have hk3:Kp [g] w2 (w2.setCell ⟨g,o+1,none⟩ (.int .i64 (fw (zO a ts) tf V' cn))):=Kp.setCell _ _ (by simp) _
   have htg:tv'.ownBlock≠some g:=fun e=>by
    rcases hfr with h | ⟨g2,h2,h3⟩
    ·rw[h] at e
     exact hgN (by simp;exact Or.inr (Or.inr e))
    ·rw[h2] at e
     cases e
     exact absurd h3 (Nat.not_le_of_lt hgW)
   have hsW:=HRS.o.k.size
   have hX2:∀ y∈[mb]++fv.ownBlock.toList++tv.ownBlock.toList,y∈[mb]++fv.ownBlock.toList++tv0.ownBlock.toList++S.map Sp.b\/w.heap.size<=y:=fun y hy=>by
    simp at hy
    rcases hy with hy | hy | hy
    ·exact Or.inl (by simp[hy])
    ·exact Or.inl (by simp only[List.mem_append];exact Or.inl (Or.inl (Or.inr (by simpa using hy))))
    ·rcases HRS.o.f with h | ⟨g2,h2,h3⟩
     ·exact Or.inl (by simp only[List.mem_append];exact Or.inl (Or.inr (by simpa using(h ▸ hy))))
     ·rw[h2] at hy
      cases hy
      exact Or.inr h3
   have hil:i < (rmap (zO a ts) tf V rs i).length:=by rw[zl5];exact hi
   have hgi:(rmap (zO a ts) tf V rs i)[i]'hil=⟨true,cn⟩:=by
    have:=Hgt.o
    rw[gE hil] at this
    exact Option.some.inj this
   have hset:=Hset0.o w2 hr2 (fw (zO a ts) tf V' cn)
   have hnext:rmap (zO a ts) tf V' rs (i+1)=(rmap (zO a ts) tf V rs i).set i ⟨true,fw (zO a ts) tf V' cn⟩:=by
    rw[zjg _ tf V' rs i hi,Hcc.o,zpg tf hg rs i HRS.o.s]
    rfl
   have Q:Hid (RI w mb cells a tf ts rs fv tv0 S (i+1) (w2.setCell ⟨g,o+1,none⟩ (.int .i64 (fw (zO a ts) tf V' cn)))):=by
    refine RI.mk tv' V' ⟨hm.kp hk3 (by simp;exact fun e=>hgN (by simp[e])) (fun j hj=>by simp;exact fun e=>hgN (by simp;exact Or.inr (Or.inl (e ▸ hj)))) (fun j hj=>by simp;exact fun e=>htg (e ▸ hj)),by rw[hnext];exact hset,(HRS.o.k.drew.then hk hX2).then hk3 (fun y hy=>Or.inl (by simp at hy;subst hy;exact List.mem_append_right _ Hob.o)),?_,fun x hx=>?_⟩ ?_
    ·rcases hfr with h | ⟨g2,h2,h3⟩
     ·rcases HRS.o.f with h' | ⟨g3,h4,h5⟩
      ·exact Or.inl (h.trans h')
      ·exact Or.inr ⟨g3,h.trans h4,h5⟩
     ·exact Or.inr ⟨g2,h2,Nat.le_trans hsW h3⟩
    ·rw[Hmem.o] at hx
     rcases List.mem_append.1 hx with hx | hx
     ·exact hg.sub x (HRS.o.s x hx)
     ·simp at hx
      subst hx
      exact hg.has
    ·have h1:=(hk.block w.heap.size HC0.o.1.2 hbN).trans Hbx.o
     refine(hk3.block _ (sz h1) ?_).trans h1
     simp
     intro e
     exact HRS.o.r.ne Hbx.o (fun a2 t2 e2=>by simp only[Obj.cells.injEq] at e2;rw[<-e2.2.1];decide) (e ▸ Hob.o)
   have Q2:Hid (Bk w1.heap.size W (w2.setCell ⟨g,o+1,none⟩ (.int .i64 (fw (zO a ts) tf V' cn)))):=⟨fun k o _ ho hko=>by
    have hlk:=(sz hko)
    have h1:w2.heap[k]? = some o:=(hk.block k hlk (fun hx=>by
     obtain⟨_,_,_,a2,t2,h2⟩:=hX k hx
     rw[h2] at hko
     cases hko
     cases ho)).trans hko
    refine(hk3.block k (sz h1) ?_).trans h1
    simp
    intro e
    obtain⟨cur,tg,hcur,_⟩:=HRS.o.r.obj Hob.o
    rw[e,hcur] at hko
    cases hko
    cases ho⟩
   clear hX hgN hbN hgW hr2 hC2 f4 hk3 htg hsW hX2 hil hgi hset hnext hg hm hk hfr
   refine oL 7 HC2.o rfl (fun K hK=>?_)
   (obtain⟨⟨f0,f1⟩,f2,f3⟩:=HC2.o;go_simp)
   refine hK _ _ ?_
   clear hK K
   refine oL 8 HC2.o rfl (fun K hK=>?_)
   (obtain⟨⟨f0,f1⟩,f2,f3⟩:=HC2.o;go_simp)
   refine hK _ _ ?_
   clear hK K
   refine oL 9 HC2.o rfl (fun K hK=>?_)
   (obtain⟨⟨f0,f1⟩,f2,f3⟩:=HC2.o;have f4:=Hf4.o;go_simp)
   refine hK _ _ ?_
   clear hK K
   refine zas (by kernel_rfl) (by kernel_rfl) ?_
   exact⟨rfl,Q.o,Q2.o⟩
end
end Go.Proofs.YtkcmachfagcnaaaGreatDoor
