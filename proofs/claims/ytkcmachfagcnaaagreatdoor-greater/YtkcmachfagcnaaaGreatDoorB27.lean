/- Part of Greater. -/
import Derived.Test.YtkcmachfagcnaaaGreatDoorB20
import Derived.Test.YtkcmachfagcnaaaGreatDoorB03
namespace Go.Proofs.YtkcmachfagcnaaaGreatDoor
open Go.RowKit Go.Deep
open C12 (Cd In Sn zT putsP)
def okC(v:Cl):Prop:=v.p=false->-1000000000<=v.n/\v.n<=1000000000
def fnAt(c:Cd)(k:Int):C12.Fn:=(c.funs[k.toNat]?).getD default
structure InOk(c:Cd)(f:C12.Fn)(T:Nat->Nat)(p:Nat)(x:In):Prop where
 op:0<=x.op/\x.op<=25
 takes:0<=zT c.funs x/\zT c.funs x<=65535
 next:¬ (x.op=18\/x.op=17\/x.op=16\/x.op=22)->p+1 < f.ins.length/\T (p+1)=(if x.op=20 then T p+1 else if x.op=21 then T p - 1 else T p)
 jump:x.op=18\/x.op=19\/x.op=20->0<=x.a/\x.a<=65535/\x.a.toNat < f.ins.length/\T x.a.toNat=T p
 back:x.op=21->0 < T p
 ret:x.op=17\/x.op=16->T p=0
 num:x.op=0\/x.op=9->-1000000000<=x.a/\x.a<=1000000000
 str:x.op=1->0<=x.a/\x.a < c.texts.length
 bas:x.op=2->0<=x.a/\x.a < 12
 fre:x.op=4->0<=x.a/\x.a < f.free
 slo:x.op=5\/x.op=6\/x.op=14->0<=x.a/\x.a<=65535
 pat:x.op=14->0<=x.b/\x.b<=65535
 blo:x.op=7->0<=x.a/\x.a<=65535/\0 < x.b/\x.b<=65535
 fie:x.op=8\/x.op=10->0<=x.a/\x.a<=65535
 sig:x.op=12->0<=x.a/\x.a < 15
 mak:x.op=13->0 < x.a/\x.a < c.funs.length
 exn:x.op=23->0<=x.a/\x.a < c.texts.length/\0<=x.b/\x.b < 2
 std:x.op=24->0<=x.a/\x.a < 6
structure FnOk(c:Cd)(f:C12.Fn)(T:Nat->Nat):Prop where
 zero:T 0=0
 pos:0 < f.ins.length
 len:f.ins.length<=65535
 free:0<=f.free/\f.free<=65535
 at_:∀ p (hp:p < f.ins.length),InOk c f T p (f.ins[p]'hp)
structure CdOk(c:Cd)(T:Nat->Nat->Nat):Prop where
 nf:0 < c.funs.length/\c.funs.length<=60000
 nt:c.texts.length<=65535
 tx:∀ t∈c.texts,t.size<=200
 fr0:(fnAt c 0).free=0
 fn:∀ i (hi:i < c.funs.length),FnOk c (c.funs[i]'hi) (T i)
structure okT(c:Cd)(t:Th):Prop where
 kind:0<=t.kind/\t.kind<=4
 b:t.kind=0->0 < t.fs.length/\0<=t.tag/\t.tag<=65535
 f:t.kind=1->(0<=t.tag/\t.tag < c.funs.length/\(t.fs.length:Int)=(fnAt c t.tag).free)\/(60000<=t.tag/\t.tag < 60012)
 tx:t.kind=2->0<=t.tag/\t.tag<=200/\t.fs.length=(t.tag.toNat+7) / 8
 ce:t.kind=3->(t.tag=0/\t.fs.length=1)\/(t.tag=1/\t.fs.length<=100)
 e:t.kind=4->∃ n,t.fs=[num n]/\0<=n/\n < c.texts.length/\0<=t.tag/\t.tag < 2
 nums:t.kind≠2->∀ v∈t.fs,okC v
 len:t.fs.length<=65535
 tp:t.kind=2->∀ v∈t.fs,v.p=false
def okD(c:Cd)(D:Doc):Prop:=∀ y t,D y=some t->okT c t
structure CalOk(c:Cd)(T:Nat->Nat->Nat)(D:Doc)(ts:List Tr)(cl:Cal)(se ve te:Nat):Prop where
 num:0<=cl.num/\cl.num < c.funs.length
 pc:cl.pc < (fnAt c cl.num).ins.length
 sb:cl.sb<=se/\se<=cl.sb+65536
 vb:cl.vb<=ve
 tb:cl.tb+T cl.num.toNat cl.pc=te
 tr:∀ j,j < T cl.num.toNat cl.pc->∃ t,ts[cl.tb+j]? = some t/\t.pc < (fnAt c cl.num).ins.length/\T cl.num.toNat t.pc=j
 fn:(fnAt c cl.num).free≠0->cl.fn.p=true/\∃ t,D cl.fn.n=some t/\t.kind=1/\(t.fs.length:Int)=(fnAt c cl.num).free
inductive Chain(c:Cd)(T:Nat->Nat->Nat)(D:Doc)(ts:List Tr):List Cal->Nat->Nat->Nat->Prop
 | nil:Chain c T D ts [] 0 0 0
 | snoc (l:List Cal) (cl:Cal) (se ve te:Nat) (h:Chain c T D ts l cl.sb cl.vb cl.tb) (hc:CalOk c T D ts cl se ve te):Chain c T D ts (l++[cl]) se ve te
theorem Chain.tA{c:Cd}{T:Nat->Nat->Nat}{D:Doc}{ts ts':List Tr}{l:List Cal}{se ve te:Nat}(h:Chain c T D ts l se ve te):(∀ j,j < te->ts'[j]? = ts[j]?)->Chain c T D ts' l se ve te:=by
 induction h with
 | nil=>exact fun _=>.nil
 | snoc l cl se ve te h hc ih=>
  intro he
  have htb:=hc.tb
  refine .snoc l cl se ve te (ih (fun j hj=>he j (by omega))) ⟨hc.num,hc.pc,hc.sb,hc.vb,hc.tb,fun j hj=>?_,hc.fn⟩
  rw[he _ (by omega)]
  exact hc.tr j hj
theorem Chain.doc{c:Cd}{T:Nat->Nat->Nat}{D D':Doc}{ts:List Tr}{l:List Cal}{se ve te:Nat}(h:Chain c T D ts l se ve te)(hD:∀ y t,D y=some t->∃ t',D' y=some t'/\t'.kind=t.kind/\t'.fs.length=t.fs.length):Chain c T D' ts l se ve te:=by
 induction h with
 | nil=>exact .nil
 | snoc l cl se ve te h hc ih=>
  refine .snoc l cl se ve te ih ⟨hc.num,hc.pc,hc.sb,hc.vb,hc.tb,hc.tr,fun hf=>?_⟩
  obtain⟨h1,t,h2,h4,h3⟩:=hc.fn hf
  obtain⟨t',h5,h7,h6⟩:=hD _ _ h2
  exact⟨h1,t',h5,by rw[h7];exact h4,by rw[h6];exact h3⟩
theorem Chain.sA{c:Cd}{T:Nat->Nat->Nat}{D:Doc}{ts:List Tr}{l:List Cal}{se ve te:Nat}(h:Chain c T D ts l se ve te):se<=65536 * l.length:=by
 induction h with
 | nil=>exact Nat.le_refl _
 | snoc l cl se ve te h hc ih=>
  have:=hc.sb
  rw[lA,List.length_cons,List.length_nil]
  omega
theorem Chain.last{c:Cd}{T:Nat->Nat->Nat}{D:Doc}{ts:List Tr}{l:List Cal}{se ve te:Nat}(h:Chain c T D ts l se ve te)(hl:l.length≠0):Chain c T D ts l.dropLast ((l.getLast?).getD default).sb ((l.getLast?).getD default).vb ((l.getLast?).getD default).tb/\CalOk c T D ts ((l.getLast?).getD default) se ve te/\l=l.dropLast++[(l.getLast?).getD default]:=by
 cases h with
 | nil=>exact absurd rfl hl
 | snoc l cl se ve te h hc=>
  have e1:(l++[cl]).dropLast=l:=List.dropLast_concat
  have e2:((l++[cl]).getLast?).getD default=cl:=by simp
  rw[e1,e2]
  exact⟨h,hc,rfl⟩
structure Inv(c:Cd)(T:Nat->Nat->Nat)(k:Nat)(m:AM):Prop where
 ch:Chain c T m.D m.s.tA m.s.cA m.s.sA.length m.s.vA.length m.s.tA.length
 rt:∀ v∈m.s.roots,okC v
 d:okD c m.D
 nx:0<=m.next/\m.next<=k
 vl:m.s.vA.length<=k
 tl:m.s.tA.length<=k
 cl:m.s.cA.length<=500
 ou:m.out.length<=2000
 st:m.steps<=k
 nd:∀ y,(m.D y).isSome=true->y < m.next
theorem Inv.cur{c:Cd}{T:Nat->Nat->Nat}{k:Nat}{m:AM}(h:Inv c T k m)(hn:m.s.cA.length≠0):Chain c T m.D m.s.tA m.s.cA.dropLast m.s.cur.sb m.s.cur.vb m.s.cur.tb/\CalOk c T m.D m.s.tA m.s.cur m.s.sA.length m.s.vA.length m.s.tA.length/\m.s.cA=m.s.cA.dropLast++[m.s.cur]:=h.ch.last hn
theorem Inv.ins{c:Cd}{T:Nat->Nat->Nat}{k:Nat}{m:AM}(h:Inv c T k m)(hc:CdOk c T)(hn:m.s.cA.length≠0):InOk c (fnAt c m.s.cur.num) (T m.s.cur.num.toNat) m.s.cur.pc (m.ins c):=by
 obtain⟨_,h2,_⟩:=h.cur hn
 have hnum:=h2.num
 have hi:m.s.cur.num.toNat < c.funs.length:=by omega
 have hf:=hc.fn _ hi
 have e:fnAt c m.s.cur.num=c.funs[m.s.cur.num.toNat]'hi:=by
  unfold fnAt
  rw[gE hi]
  rfl
 have hp:=h2.pc
 rw[e] at hp
 have h3:=hf.at_ _ hp
 unfold AM.ins
 rw[e]
 rw[gE hi,Option.getD_some,gE hp]
 exact h3
def okA(c:Cd)(m:AM):Act1->Prop
 | .wrong=>True
 | .raise k=>-6<=k/\k < 0
 | .give v=>okC v
 | .set x _ v=>okC v/\∃ t,m.D x=some t/\(t.kind=1\/t.kind=3)
 | .make t=>okT c t
 | .out l=>m.out.length+l.length<=2000
theorem zcy{n:Int}(h:-1000000000<=n/\n<=1000000000):okC (num n):=fun _=>h
theorem zds:okC (default:Cl):=fun _=>by decide
theorem zde(b:Bool):okC (truth b):=by
 unfold truth
 apply zcy
 split <;> omega
theorem zp8(c:Cd)(m:AM)(n:Int):okA c m (inR n):=by
 unfold inR
 split
 ·exact⟨by decide,by decide⟩
 ·exact zcy (by omega)
theorem zat{D:Doc}{v:Cl}{k:Int}(h:thK D v k=true):v.p=true/\∃ t,D v.n=some t/\t.kind=k:=by
 unfold thK at h
 simp only[Bool.and_eq_true] at h
 refine⟨h.1,?_⟩
 revert h
 cases hD:D v.n with
 | none=>intro h;exact absurd h.2 Bool.false_ne_true
 | some t=>intro h;exact⟨t,rfl,by simpa using h.2⟩
theorem zt0{D:Doc}{x:Int}{t:Th}(h:D x=some t)(i:Nat):getA D x i∈t.fs\/getA D x i=default:=by
 unfold getA
 rw[h]
 simp only[Option.getD_some]
 by_cases hi:i < t.fs.length
 ·rw[gE hi]
  exact Or.inl (List.getElem_mem hi)
 ·rw[List.getElem?_eq_none (by omega)]
  exact Or.inr rfl
theorem zec{c:Cd}{D:Doc}(hd:okD c D){x:Int}{t:Th}(h:D x=some t)(hk:t.kind≠2)(i:Nat):okC (getA D x i):=by
 rcases zt0 h i with h1 | h1
 ·exact(hd x t h).nums hk _ h1
 ·rw[h1]
  exact zds
theorem zfz(n:Int):(za6 n).length=8:=by simp[za6]
theorem zd0:∀ l:List Cl,(l.flatMap fun c=>za6 c.n).length=8 * l.length
 | []=>rfl
 | c :: l=>by
  rw[List.flatMap_cons,lA,zfz,zd0 l,List.length_cons]
  omega
theorem zbr{c:Cd}{D:Doc}(hd:okD c D){x:Int}{t:Th}(h:D x=some t)(hk:t.kind=2):((bytesA D x).length:Int)=tagA D x/\0<=tagA D x/\tagA D x<=200:=by
 obtain⟨h1,h2,h3⟩:=(hd x t h).tx hk
 have e1:tagA D x=t.tag:=by unfold tagA;rw[h];rfl
 refine⟨?_,by omega,by omega⟩
 unfold bytesA
 rw[h,e1]
 simp only[Option.getD_some]
 rw[List.length_take,zd0]
 omega
theorem zfs:∀ (k:Nat) (l:List UInt8),(packs k l).length=k
 | 0,_=>rfl
 | k+1,l=>by rw[packs,List.length_cons,zfs k]
theorem zjl:∀ (k:Nat) (l:List UInt8),∀ v∈packs k l,v.p=false
 | 0,_,v,hv=>by cases hv
 | k+1,l,v,hv=>by
  rcases List.mem_cons.1 hv with h | h
  ·rw[h]
   rfl
  ·exact zjl k _ v h
theorem zfb(c:Cd){l:List UInt8}(h:l.length<=200):okT c (zTT l):=by
 refine⟨⟨by simp[zTT],by simp[zTT]⟩,fun e=>?_,fun e=>?_,fun _=>⟨?_,?_,?_⟩,fun e=>?_,fun e=>?_,fun e=>?_,?_,fun _=>zjl _ _⟩
 ·simp[zTT] at e
 ·simp[zTT] at e
 ·simp[zTT]
 ·simp[zTT];omega
 ·simp[zTT,zfs]
 ·simp[zTT] at e
 ·simp[zTT] at e
 ·exact absurd rfl e
 ·simp[zTT,zfs];omega
section
variable{c:Cd}{m:AM}
theorem zjn{tag:Int}{fs:List Cl}(h:0 < fs.length/\fs.length<=65535)(ht:0<=tag/\tag<=65535)(hf:∀ v∈fs,okC v):okT c ⟨0,tag,fs⟩:=
 ⟨by simp,fun _=>⟨h.1,ht⟩,(fun e=>by simp at e),(fun e=>by simp at e),(fun e=>by simp at e),(fun e=>by simp at e),fun _=>hf,h.2,(fun e=>by simp at e)⟩
theorem zp5{tag:Int}{fs:List Cl}(h:fs.length<=65535)(ht:(0<=tag/\tag < c.funs.length/\(fs.length:Int)=(fnAt c tag).free)\/(60000<=tag/\tag < 60012))(hf:∀ v∈fs,okC v):okT c ⟨1,tag,fs⟩:=
 ⟨by simp,(fun e=>by simp at e),fun _=>ht,(fun e=>by simp at e),(fun e=>by simp at e),(fun e=>by simp at e),fun _=>hf,h,(fun e=>by simp at e)⟩
theorem zjm{tag:Int}{fs:List Cl}(ht:(tag=0/\fs.length=1)\/(tag=1/\fs.length<=100))(hf:∀ v∈fs,okC v):okT c ⟨3,tag,fs⟩:=
 ⟨by simp,(fun e=>by simp at e),(fun e=>by simp at e),(fun e=>by simp at e),fun _=>ht,(fun e=>by simp at e),fun _=>hf,by simp only;omega,(fun e=>by simp at e)⟩
theorem zs1(k:Nat)(a b:Int):okA c m (reck k a b):=by
 unfold reck
 repeat' split
 all_goals first | exact zp8 _ _ _ | exact zde _ | exact⟨by decide,by decide⟩
theorem zmb(D:Doc)(a b:Cl)(alike:Bool):okA c m (compA D a b alike):=by
 unfold compA
 split
 ·exact⟨by decide,by decide⟩
 ·exact zde _
theorem zs3(hd:okD c m.D)(a b:Cl):okA c m (joinA m.D a b):=by
 unfold joinA
 split
 ·rename_i h
  simp only[Bool.and_eq_true] at h
  obtain⟨_,t,ht,hk⟩:=zat h.1
  obtain⟨_,u,hu,hk2⟩:=zat h.2
  split
  ·exact⟨by decide,by decide⟩
  ·have h1:=zbr hd ht hk
   have h2:=zbr hd hu hk2
   exact zfb c (by rw[lA];omega)
 ·trivial
theorem zcf{D:Doc}{v:Cl}{tag:Int}(h:isC D v tag=true):v.p=true/\∃ t,D v.n=some t/\t.kind=3/\t.tag=tag:=by
 unfold isC at h
 simp only[Bool.and_eq_true,decide_eq_true_eq] at h
 obtain⟨h1,t,h2,h3⟩:=zat h.1
 refine⟨h1,t,h2,h3,?_⟩
 have:=h.2
 unfold tagA at this
 rw[h2] at this
 exact this
theorem zdv{D:Doc}{v:Cl}{n:Nat}(h:isT D v n=true):v.p=true/\∃ t,D v.n=some t/\t.kind=0/\t.fs.length=n:=by
 unfold isT at h
 simp only[Bool.and_eq_true,decide_eq_true_eq] at h
 obtain⟨h1,t,h2,h3⟩:=zat h.1
 refine⟨h1,t,h2,h3,?_⟩
 have:=h.2
 unfold lenA at this
 rw[h2] at this
 exact this
theorem zs0(hd:okD c m.D)(k:Nat){a v:Cl}(hv:okC v):okA c m (signA m.D k a v):=by
 unfold signA
 split
 ·split
  ·rename_i h
   obtain⟨_,t,ht,hk,_⟩:=zcf h
   exact zec hd ht (by omega) 0
  ·trivial
 split
 ·split
  ·trivial
  ·exact zp8 _ _ _
 split
 ·exact zmb _ _ _ _
 split
 ·exact zmb _ _ _ _
 split
 ·exact zs3 hd _ _
 split
 ·split
  ·rename_i h
   obtain⟨_,t,ht,hk,_⟩:=zcf h
   exact⟨hv,t,ht,Or.inr hk⟩
  ·trivial
 split
 ·trivial
 ·exact zs1 _ _ _
theorem zvu(v:Cl):okA c m (subA m.D v):=by
 unfold subA
 split
 ·split
  ·exact⟨by decide,by decide⟩
  ·refine zcy ?_
   have:=UInt8.toNat_lt (((bytesA m.D (getA m.D v.n 0).n)[(getA m.D v.n 1).n.toNat]?).getD 0)
   omega
 ·trivial
theorem zs2(hd:okD c m.D)(v:Cl):okA c m (partA m.D v):=by
 unfold partA
 split
 ·rename_i h
  simp only[Bool.and_eq_true] at h
  obtain⟨_,t,ht,hk⟩:=zat h.1.2
  have h1:=zbr hd ht hk
  split
  ·trivial
  split
  ·exact⟨by decide,by decide⟩
  ·exact zfb c (by rw[List.length_take,List.length_drop];omega)
 ·trivial
theorem zp9(hd:okD c m.D)(v:Cl):okA c m (zf6 m.D v):=by
 unfold zf6
 split
 ·rename_i h
  simp only[Bool.and_eq_true] at h
  obtain⟨_,t,ht,hk,_⟩:=zdv h.1
  split
  ·exact⟨by decide,by decide⟩
  ·refine zjm (Or.inr ⟨rfl,by simp;omega⟩) (fun u hu=>?_)
   rw[List.eq_of_mem_replicate hu]
   exact zec hd ht (by omega) 1
 ·trivial
theorem zuw(hd:okD c m.D)(put:Bool)(v:Cl):okA c m (atA m.D put v):=by
 unfold atA
 generalize (if put=true then 3 else 2)=n
 by_cases h:(isT m.D v n && isC m.D (getA m.D v.n 0) 1 && !(getA m.D v.n 1).p)=true
 ·rw[if_pos h]
  simp only[Bool.and_eq_true] at h
  obtain⟨_,t,ht,hk,_⟩:=zdv h.1.1
  obtain⟨_,u,hu,hk2,_⟩:=zcf h.1.2
  split
  ·exact⟨by decide,by decide⟩
  split
  ·exact⟨zec hd ht (by omega) 2,u,hu,Or.inr hk2⟩
  ·exact zec hd hu (by omega) _
 ·rw[if_neg h]
  trivial
theorem zlz{n:Int}(h:-1000000000<=n/\n<=1000000000):(strA n).length<=200:=by
 unfold strA
 split
 ·have:=Lib.nDigits_le20 n.natAbs (by omega)
  rw[List.length_cons,Lib.decDigits_length]
  omega
 ·have:=Lib.nDigits_le20 n.toNat (by omega)
  rw[Lib.decDigits_length]
  omega
theorem zar{p:Prop} [Decidable p]{a b:Act1}(h1:p->okA c m a)(h2:¬ p->okA c m b):okA c m (if p then a else b):=by
 by_cases h:p
 ·rw[if_pos h]
  exact h1 h
 ·rw[if_neg h]
  exact h2 h
theorem zs4(hd:okD c m.D)(k:Nat){v:Cl}(hv:okC v):okA c m (baseA m.D m.out k v):=by
 unfold baseA
 refine zar (fun _=>zar (fun _=>trivial) (fun _=>zde _)) (fun _=>?_)
 refine zar (fun _=>zar (fun _=>zar (fun _=>⟨by decide,by decide⟩) (fun h=>?_)) (fun _=>trivial)) (fun _=>?_)
 ·show m.out.length+(bytesA m.D v.n).length<=2000
  omega
 refine zar (fun _=>zar (fun _=>trivial) (fun h=>zfb c (zlz (hv (by simpa using h))))) (fun _=>?_)
 refine zar (fun _=>zar (fun h=>?_) (fun _=>trivial)) (fun _=>?_)
 ·obtain⟨_,t,ht,hk⟩:=zat h
  have h1:=zbr hd ht hk
  exact zcy (by omega)
 refine zar (fun _=>zvu v) (fun _=>?_)
 refine zar (fun _=>zs2 hd v) (fun _=>?_)
 refine zar (fun _=>zar (fun _=>trivial) (fun _=>zar (fun _=>⟨by decide,by decide⟩) (fun _=>zfb c (by simp)))) (fun _=>?_)
 refine zar (fun _=>zjm (Or.inl ⟨rfl,rfl⟩) (fun u hu=>by rw[List.mem_singleton.1 hu];exact hv)) (fun _=>?_)
 refine zar (fun _=>zp9 hd v) (fun _=>?_)
 refine zar (fun _=>zar (fun h=>?_) (fun _=>trivial)) (fun _=>?_)
 ·obtain⟨_,t,ht,hk,_⟩:=zcf h
  have h1:=(hd _ t ht).len
  refine zcy ?_
  unfold lenA
  rw[ht]
  simp only[Option.getD_some]
  omega
 exact zar (fun _=>zuw hd _ v) (fun _=>zuw hd _ v)
end
theorem zbd:∀ (l k:List Cal),zY (l++k)=zY l++zY k
 | [],k=>rfl
 | c :: l,k=>by simp only[List.cons_append,zY,zbd l k]
theorem zfi(s:St)(q:Nat):(s.goto q).cur={s.cur with pc:=q}:=by simp[St.goto,St.cur]
theorem zjz(s:St)(q:Nat):(s.goto q).cA.dropLast=s.cA.dropLast:=by simp[St.goto]
structure Mid(c:Cd)(T:Nat->Nat->Nat)(k:Nat)(m:AM)(p:Nat):Prop where
 ch:Chain c T m.D m.s.tA m.s.cA.dropLast m.s.cur.sb m.s.cur.vb m.s.cur.tb
 cu:CalOk c T m.D m.s.tA {m.s.cur with pc:=p} m.s.sA.length m.s.vA.length m.s.tA.length
 eq:m.s.cA=m.s.cA.dropLast++[m.s.cur]
 sl:∀ v∈m.s.sA,okC v
 va:∀ v∈m.s.vA,okC v
 ca:∀ v∈zY m.s.cA,okC v
 d:okD c m.D
 nx:0<=m.next/\m.next<=k+1
 vl:m.s.vA.length<=k
 tl:m.s.tA.length<=k
 cl:m.s.cA.length<=500
 ou:m.out.length<=2000
 st:m.steps<=k
 nd:∀ y,(m.D y).isSome=true->y < m.next
section
variable{c:Cd}{T:Nat->Nat->Nat}{k:Nat}{m:AM}{p:Nat}
theorem Inv.mid(h:Inv c T k m)(hn:m.s.cA.length≠0):Mid c T k {m with s:=m.s.goto (m.s.cur.pc+1)} m.s.cur.pc:=by
 obtain⟨h1,h2,h3⟩:=h.cur hn
 have hrt:∀ v∈m.s.roots,okC v:=h.rt
 unfold St.roots at hrt
 have ec:{(m.s.goto (m.s.cur.pc+1)).cur with pc:=m.s.cur.pc} = m.s.cur:=by rw[zfi]
 refine⟨?_,?_,?_,fun v hv=>hrt v (by simp at hv ⊢;exact Or.inr (Or.inl hv)),fun v hv=>hrt v (by simp at hv ⊢;exact Or.inr (Or.inr hv)),fun v hv=>?_,h.d,⟨h.nx.1,by have:=h.nx.2;simp only;omega⟩,h.vl,h.tl,?_,h.ou,h.st,h.nd⟩
 ·simp only
  rw[zjz,zfi]
  exact h1
 ·simp only
  rw[ec]
  exact h2
 ·simp only
  rw[zjz,zfi]
  rfl
 ·simp only at hv
  have hv2:v∈zY (m.s.cA.dropLast++[{m.s.cur with pc:=m.s.cur.pc+1}]):=hv
  rw[zbd] at hv2
  refine hrt v (List.mem_append.2 (Or.inl ?_))
  rw[h3,zbd]
  exact hv2
 ·have hl:(m.s.goto (m.s.cur.pc+1)).cA.length=m.s.cA.length:=by
   simp[St.goto]
   omega
  simp only
  rw[hl]
  exact h.cl
theorem Mid.fin(h:Mid c T k m p){m':AM}(q:Nat)
  (hcalls:m'.s.cA=m.s.cA.dropLast++[{m.s.cur with pc:=q}])
  (hq:q < (fnAt c m.s.cur.num).ins.length)
  (htl:m.s.cur.tb+T m.s.cur.num.toNat q=m'.s.tA.length)
  (htr:∀ j,j < T m.s.cur.num.toNat q->∃ t,m'.s.tA[m.s.cur.tb+j]? = some t/\t.pc < (fnAt c m.s.cur.num).ins.length/\T m.s.cur.num.toNat t.pc=j)
  (hpre:∀ j,j < m.s.cur.tb->m'.s.tA[j]? = m.s.tA[j]?)
  (hsl:m.s.cur.sb<=m'.s.sA.length/\m'.s.sA.length<=m.s.cur.sb+65536)
  (hvl:m.s.cur.vb<=m'.s.vA.length/\m'.s.vA.length<=k+1)
  (htk:m'.s.tA.length<=k+1)
  (hD:∀ y t,m.D y=some t->∃ t',m'.D y=some t'/\t'.kind=t.kind/\t'.fs.length=t.fs.length)
  (hd:okD c m'.D) (hnx:0<=m'.next/\m'.next<=k+1) (hnd:∀ y,(m'.D y).isSome=true->y < m'.next)
  (hs:∀ v∈m'.s.sA,okC v) (hv:∀ v∈m'.s.vA,okC v) (hou:m'.out.length<=2000) (hst:m'.steps<=k+1):Inv c T (k+1) m':=by
 have hl:=h.eq
 refine⟨?_,fun v hv2=>?_,hd,⟨hnx.1,by omega⟩,hvl.2,htk,?_,hou,hst,hnd⟩
 ·rw[hcalls]
  refine .snoc _ _ _ _ _ ((h.ch.tA hpre).doc hD) ⟨h.cu.num,hq,hsl,hvl.1,htl,htr,fun hf=>?_⟩
  obtain⟨h1,t,h2,h4,h3⟩:=h.cu.fn hf
  obtain⟨t',h5,h7,h6⟩:=hD _ _ h2
  exact⟨h1,t',h5,by rw[h7];exact h4,by rw[h6];exact h3⟩
 ·unfold St.roots at hv2
  rcases List.mem_append.1 hv2 with h1 | h1
  ·rw[hcalls,zbd] at h1
   have hca:=h.ca v
   rw[hl,zbd] at hca
   exact hca h1
  ·rcases List.mem_append.1 h1 with h1 | h1
   ·exact hs v h1
   ·exact hv v h1
 ·have:=h.cl
  rw[hl] at this
  rw[hcalls]
  simp at this ⊢
  exact this
theorem Mid.go(h:Mid c T k m p){m':AM}(q:Nat)(hcalls:m'.s.cA=m.s.cA.dropLast++[{m.s.cur with pc:=q}])
  (hq:q < (fnAt c m.s.cur.num).ins.length) (hT:T m.s.cur.num.toNat q=T m.s.cur.num.toNat p) (htr:m'.s.tA=m.s.tA)
  (hsl:m.s.cur.sb<=m'.s.sA.length/\m'.s.sA.length<=m.s.cur.sb+65536)
  (hvl:m.s.cur.vb<=m'.s.vA.length/\m'.s.vA.length<=k+1)
  (hD:m'.D=m.D) (hnx:m'.next=m.next) (hs:∀ v∈m'.s.sA,okC v) (hv:∀ v∈m'.s.vA,okC v) (hou:m'.out=m.out) (hst:m'.steps=m.steps):Inv c T (k+1) m':=by
 have htb:=h.cu.tb
 have htl:=h.tl
 refine h.fin q hcalls hq (by rw[htr,hT];exact htb) (fun j hj=>?_) (fun j _=>by rw[htr]) hsl hvl (by rw[htr];omega) (fun y t hy=>⟨t,by rw[hD];exact hy,rfl,rfl⟩) (by rw[hD];exact h.d) (by rw[hnx];exact h.nx) (by rw[hD,hnx];exact h.nd) hs hv (by rw[hou];exact h.ou) (by rw[hst];have:=h.st;omega)
 rw[htr]
 exact h.cu.tr j (by rw[hT] at hj;exact hj)
theorem Mid.drop(h:Mid c T k m p){n:Nat}(hn:m.s.cur.vb+n<=m.s.vA.length):Mid c T k {m with s:=m.s.drop n} p:=by
 have hl:(m.s.drop n).vA.length=m.s.vA.length - n:=by simp[St.drop]
 refine⟨h.ch,⟨h.cu.num,h.cu.pc,h.cu.sb,?_,h.cu.tb,h.cu.tr,h.cu.fn⟩,h.eq,h.sl,fun v hv=>h.va v (List.mem_of_mem_take hv),h.ca,h.d,h.nx,?_,h.tl,h.cl,h.ou,h.st,h.nd⟩
 ·simp only
  rw[hl]
  show m.s.cur.vb<=_
  omega
 ·simp only
  rw[hl]
  have:=h.vl
  omega
theorem Mid.make(h:Mid c T k m p)(hk:m.next<=k){t:Th}(ht:okT c t):Mid c T k (m.make t) p:=by
 have hD:∀ y u,m.D y=some u->∃ t',(m.make t).D y=some t'/\t'.kind=u.kind/\t'.fs.length=u.fs.length:=fun y u hy=>by
  have:=h.nd y (by rw[hy];rfl)
  exact⟨u,by show upd m.D m.next (some t) y=some u;rw[zav _ _ (by omega)];exact hy,rfl,rfl⟩
 refine⟨h.ch.doc hD,⟨h.cu.num,h.cu.pc,h.cu.sb,h.cu.vb,h.cu.tb,h.cu.tr,fun hf=>?_⟩,h.eq,h.sl,h.va,h.ca,fun y u hy=>?_,?_,h.vl,h.tl,h.cl,h.ou,h.st,fun y hy=>?_⟩
 ·obtain⟨h1,u,h2,h4,h3⟩:=h.cu.fn hf
  obtain⟨t',h5,h7,h6⟩:=hD _ _ h2
  exact⟨h1,t',h5,by rw[h7];exact h4,by rw[h6];exact h3⟩
 ·have hy2:upd m.D m.next (some t) y=some u:=hy
  by_cases e:y=m.next
  ·subst e
   rw[zbf] at hy2
   cases hy2
   exact ht
  ·rw[zav _ _ e] at hy2
   exact h.d y u hy2
 ·have:=h.nx
  show 0<=m.next+1/\m.next+1<=(k:Int)+1
  omega
 ·have hy2:(upd m.D m.next (some t) y).isSome=true:=hy
  show y < m.next+1
  by_cases e:y=m.next
  ·omega
  ·rw[zav _ _ e] at hy2
   have:=h.nd y hy2
   omega
theorem Mid.set(h:Mid c T k m p){x:Int}{i:Nat}{v:Cl}(hv:okC v){t:Th}(ht:m.D x=some t)(hk:t.kind=1\/t.kind=3):Mid c T k {m with D:=setA m.D x i v} p:=by
 have he:setA m.D x i v=upd m.D x (some ⟨t.kind,t.tag,t.fs.set i v⟩):=by unfold setA;rw[ht];rfl
 have hD:∀ y u,m.D y=some u->∃ t',setA m.D x i v y=some t'/\t'.kind=u.kind/\t'.fs.length=u.fs.length:=fun y u hy=>by
  rw[he]
  by_cases e:y=x
  ·subst e
   rw[ht] at hy
   cases hy
   exact⟨_,zbf _ _ _,rfl,by simp⟩
  ·exact⟨u,by rw[zav _ _ e];exact hy,rfl,rfl⟩
 have hot:=h.d x t ht
 refine⟨h.ch.doc hD,⟨h.cu.num,h.cu.pc,h.cu.sb,h.cu.vb,h.cu.tb,h.cu.tr,fun hf=>?_⟩,h.eq,h.sl,h.va,h.ca,fun y u hy=>?_,h.nx,h.vl,h.tl,h.cl,h.ou,h.st,fun y hy=>?_⟩
 ·obtain⟨h1,u,h2,h4,h3⟩:=h.cu.fn hf
  obtain⟨t',h5,h7,h6⟩:=hD _ _ h2
  exact⟨h1,t',h5,by rw[h7];exact h4,by rw[h6];exact h3⟩
 ·have hy2:setA m.D x i v y=some u:=hy
  rw[he] at hy2
  by_cases e:y=x
  ·subst e
   rw[zbf] at hy2
   cases hy2
   have hnum:∀ z∈t.fs.set i v,okC z:=fun z hz=>by
    rcases List.mem_or_eq_of_mem_set hz with h1 | h1
    ·exact hot.nums (by omega) z h1
    ·rw[h1]
     exact hv
   have hl:(t.fs.set i v).length=t.fs.length:=by simp
   refine⟨hot.kind,(fun e=>?_),(fun e=>?_),(fun e=>?_),(fun e=>?_),(fun e=>?_),fun _=>hnum,?_,(fun e=>?_)⟩
   ·simp only at e;omega
   ·have:=hot.f e;simp only;rw[hl];exact this
   ·simp only at e;omega
   ·have:=hot.ce e;simp only;rw[hl];exact this
   ·simp only at e;omega
   ·simp only;rw[hl];exact hot.len
   ·simp only at e;omega
  ·rw[zav _ _ e] at hy2
   exact h.d y u hy2
 ·have hy2:(setA m.D x i v y).isSome=true:=hy
  rw[he] at hy2
  by_cases e:y=x
  ·subst e
   exact h.nd y (by rw[ht];rfl)
  ·rw[zav _ _ e] at hy2
   exact h.nd y hy2
theorem Mid.out(h:Mid c T k m p){l:List UInt8}(hl:m.out.length+l.length<=2000):Mid c T k {m with out:=m.out++l} p:=
 ⟨h.ch,h.cu,h.eq,h.sl,h.va,h.ca,h.d,h.nx,h.vl,h.tl,h.cl,by simp only;rw[lA];exact hl,h.st,h.nd⟩
theorem Mid.leave(h:Mid c T k m p)(hn:m.s.leave.cA.length≠0):Mid c T k {m with s:=m.s.leave} m.s.leave.cur.pc:=by
 have hsb:=h.cu.sb
 have hvb:=h.cu.vb
 have htb:=h.cu.tb
 have e1:(m.s.sA.take m.s.cur.sb).length=m.s.cur.sb:=by rw[List.length_take];simp only at hsb;omega
 have e2:(m.s.vA.take m.s.cur.vb).length=m.s.cur.vb:=by rw[List.length_take];simp only at hvb;omega
 have e3:(m.s.tA.take m.s.cur.tb).length=m.s.cur.tb:=by rw[List.length_take];simp only at htb;omega
 have hch:Chain c T m.D (m.s.tA.take m.s.cur.tb) m.s.cA.dropLast m.s.cur.sb m.s.cur.vb m.s.cur.tb:=h.ch.tA (fun j hj=>List.getElem?_take_of_lt hj)
 obtain⟨l1,l2,l3⟩:=hch.last hn
 have hvl:=h.vl
 have htl:=h.tl
 have hcl:=h.cl
 refine⟨l1,?_,l3,fun v hv=>h.sl v (List.mem_of_mem_take hv),fun v hv=>h.va v (List.mem_of_mem_take hv),fun v hv=>h.ca v ?_,h.d,h.nx,?_,?_,?_,h.ou,h.st,h.nd⟩
 ·show CalOk c T m.D (m.s.tA.take m.s.cur.tb) m.s.leave.cur (m.s.sA.take m.s.cur.sb).length (m.s.vA.take m.s.cur.vb).length (m.s.tA.take m.s.cur.tb).length
  rw[e1,e2,e3]
  exact l2
 ·rw[h.eq,zbd]
  exact List.mem_append.2 (Or.inl hv)
 ·show(m.s.vA.take m.s.cur.vb).length<=k
  rw[List.length_take]
  omega
 ·show(m.s.tA.take m.s.cur.tb).length<=k
  rw[List.length_take]
  omega
 ·show m.s.cA.dropLast.length<=500
  rw[List.length_dropLast]
  omega
def InvG(c:Cd)(T:Nat->Nat->Nat)(k:Nat)(m:AM):Prop:=m.kind=0->m.steps<=k/\m.s.cA.length≠0/\Inv c T (k+1) m
theorem InvG.not{m:AM}(h:m.kind≠0):InvG c T k m:=fun e=>absurd e h
theorem Mid.putS(h:Mid c T k m p){n:Nat}(hn:m.s.cur.vb+n<=m.s.vA.length){v:Cl}(hv:okC v){q:Nat}(hpc:m.s.cur.pc=q)(hq:q < (fnAt c m.s.cur.num).ins.length)(hT:T m.s.cur.num.toNat q=T m.s.cur.num.toNat p):InvG c T k {m with s:=(m.s.drop n).put v,kind:=0}:=fun _=>by
 have hsb:=h.cu.sb
 have hvl:=h.vl
 have hl:((m.s.drop n).put v).vA.length=m.s.vA.length - n+1:=by simp[St.drop,St.put]
 have hcalls:((m.s.drop n).put v).cA=m.s.cA.dropLast++[{m.s.cur with pc:=q}]:=by
  show m.s.cA=_
  rw[<-hpc]
  exact h.eq
 refine⟨h.st,by simp only;rw[hcalls];simp,h.go q hcalls hq hT rfl hsb ⟨?_,?_⟩ rfl rfl h.sl (fun u hu=>?_) rfl rfl⟩
 ·simp only
  rw[hl]
  omega
 ·simp only
  rw[hl]
  omega
 ·have hu2:=hu
  rcases List.mem_append.1 hu2 with h1 | h1
  ·exact h.va u (List.mem_of_mem_take h1)
  ·rw[List.mem_singleton.1 h1]
   exact hv
theorem Mid.giveS(h:Mid c T k m p){v:Cl}(hv:okC v):InvG c T k (m.giveS v):=by
 unfold AM.giveS
 split
 ·exact InvG.not (by show(1:Int)≠0;decide)
 ·rename_i hn
  have h2:=h.leave hn
  have:=h2.putS (n:=0) (by have:=h2.cu.vb;simp only at this ⊢;omega) hv (q:=m.s.leave.cur.pc) rfl (by have:=h2.cu.pc;exact this) rfl
  simpa [St.drop] using this
theorem zjj{v:Cl}(hv:okC v):∀ (f:Nat) (m:AM) (p:Nat),Mid c T k m p->(zRS v f m.s).2=true->InvG c T k {m with s:=(zRS v f m.s).1,kind:=0}
 | 0,m,p,_,h2=>by simp[zRS] at h2
 | f+1,m,p,h,h2=>by
  unfold zRS at h2 ⊢
  have hne:m.s.cA.length≠0:=by rw[h.eq];simp
  rw[if_neg hne] at h2 ⊢
  by_cases hc:m.s.cur.tb < m.s.tA.length
  ·rw[if_pos hc]
   intro _
   have htb:=h.cu.tb
   simp only at htb
   have hvb:=h.cu.vb
   have hvl:=h.vl
   have htl:=h.tl
   simp only at hvb
   obtain⟨t,ht1,ht2,ht3⟩:=h.cu.tr (T m.s.cur.num.toNat p - 1) (by simp only;omega)
   simp only at ht1 ht2 ht3
   have et:(m.s.tA.getLast?).getD default=t:=by
    rw[List.getLast?_eq_getElem?,show m.s.tA.length - 1=m.s.cur.tb+(T m.s.cur.num.toNat p - 1) by omega,ht1]
    rfl
   simp only[et]
   refine⟨h.st,by simp,?_⟩
   have hd:m.s.tA.dropLast.length=m.s.tA.length - 1:=List.length_dropLast
   have hget:∀ j,j < m.s.tA.length - 1->m.s.tA.dropLast[j]? = m.s.tA[j]?:=fun j hj=>by
    rw[List.dropLast_eq_take,List.getElem?_take_of_lt hj]
   refine h.fin t.pc rfl ht2 ?_ (fun j hj=>?_) (fun j hj=>hget j (by omega)) h.cu.sb ⟨?_,?_⟩ ?_ (fun y u hy=>⟨u,hy,rfl,rfl⟩) h.d h.nx h.nd h.sl (fun u hu=>?_) h.ou ?_
   ·simp only
    rw[hd]
    omega
   ·simp only
    rw[hget _ (by omega)]
    exact h.cu.tr j (by simp only;omega)
   ·simp only[lA,List.length_take,List.length_cons,List.length_nil]
    omega
   ·simp only[lA,List.length_take,List.length_cons,List.length_nil]
    omega
   ·simp only
    rw[hd]
    omega
   ·simp only at hu
    rcases List.mem_append.1 hu with h1 | h1
    ·exact h.va u (List.mem_of_mem_take h1)
    ·rw[List.mem_singleton.1 h1]
     exact hv
   ·have:=h.st
    simp only
    omega
  ·rw[if_neg hc] at h2 ⊢
   by_cases hl:m.s.leave.cA.length=0
   ·exfalso
    cases f with
    | zero=>simp[zRS] at h2
    | succ f=>
     unfold zRS at h2
     rw[if_pos hl] at h2
     cases h2
   ·exact zjj hv f {m with s:=m.s.leave} m.s.leave.cur.pc (h.leave hl) h2
theorem Mid.raise(h:Mid c T k m p){v:Cl}(hv:okC v):InvG c T k (AM.raise c m v):=by
 unfold AM.raise
 split
 ·rename_i h2
  exact zjj hv _ m p h h2
 ·exact InvG.not (by show(2:Int)≠0;decide)
end
end Go.Proofs.YtkcmachfagcnaaaGreatDoor
