/- Part of Greater. -/
import Derived.Test.YtkcmachfagcnaaaGreatDoorB27
import Derived.Test.YtkcmachfagcnaaaGreatDoorB26
set_option maxHeartbeats 8000000
set_option maxRecDepth 100000
namespace Go.Proofs.YtkcmachfagcnaaaGreatDoor
open Go.RowKit Go.Deep
open C12 (Cd In Sn zT putsP)
section
variable{c:Cd}{T:Nat->Nat->Nat}{k:Nat}{m:AM}{p:Nat}(ok:Room)
theorem zp6(x:Int):okC ⟨true,x⟩:=fun e=>by cases e
theorem Mid.fail(h:Mid c T k m p)(hk:m.next<=k){e:Int}(he:-6<=e/\e < 0){takes:Nat}(hn:m.s.cur.vb+takes<=m.s.vA.length):InvG c T k (AM.fail ok c m e takes):=by
 unfold AM.fail
 split
 ·have h1:=h.make hk (t:=⟨0,0,[num e]⟩) (zjn ⟨by simp,by simp⟩ (by omega) (fun v hv=>by rw[List.mem_singleton.1 hv];exact zcy (by omega)))
  exact(h1.drop (n:=takes) hn).raise (zp6 _)
 ·exact InvG.not (by show(3:Int)≠0;decide)
theorem Mid.act(h:Mid c T k m p)(hk:m.next<=k){a:Act1}(ha:okA c m a){takes:Nat}(hn:m.s.cur.vb+takes<=m.s.vA.length){kk:AM->Cl->AM}(hkk:∀ m2 v,Mid c T k m2 p->m2.s=m.s->okC v->InvG c T k (kk m2 v)):InvG c T k (AM.act ok c m a takes kk):=by
 cases a with
 | wrong=>exact InvG.not (by show(4:Int)≠0;decide)
 | raise e=>exact h.fail ok hk ha hn
 | give v=>exact hkk m v h rfl ha
 | set x i v=>
  obtain⟨h1,t,h2,h3⟩:=ha
  exact hkk _ _ (h.set h1 h2 h3) rfl (zcy (by omega))
 | make t=>
  unfold AM.act
  simp only
  split
  ·exact hkk _ _ (h.make hk ha) rfl (zp6 _)
  ·exact InvG.not (by show(3:Int)≠0;decide)
 | out l=>exact hkk _ _ (h.out ha) rfl (zcy (by omega))
theorem zd5{s:St}(h:∀ v∈s.vA,okC v)(i:Nat):okC (s.top i):=by
 unfold St.top
 by_cases hi:s.vA.length - 1 - i < s.vA.length
 ·rw[gE hi]
  exact h _ (List.getElem_mem hi)
 ·rw[List.getElem?_eq_none (by omega)]
  exact zds
theorem Chain.enter(hc:CdOk c T){D:Doc}{ts:List Tr}{l:List Cal}{se ve te:Nat}(h:Chain c T D ts l se ve te)(tag:Int)(fn arg:Cl)(ht:0<=tag/\tag < c.funs.length)(hf:(fnAt c tag).free≠0->fn.p=true/\∃ t,D fn.n=some t/\t.kind=1/\(t.fs.length:Int)=(fnAt c tag).free):Chain c T D ts (l++[⟨tag,fn,arg,0,se,ve,te⟩]) se ve te:=by
 have hi:tag.toNat < c.funs.length:=by omega
 have hfo:=hc.fn _ hi
 have e:fnAt c tag=c.funs[tag.toNat]'hi:=by
  unfold fnAt
  rw[gE hi]
  rfl
 refine .snoc l ⟨tag,fn,arg,0,se,ve,te⟩ se ve te h ⟨ht,?_,⟨Nat.le_refl _,by simp only;omega⟩,Nat.le_refl _,?_,fun j hj=>?_,hf⟩
 ·rw[e]
  exact hfo.pos
 ·simp only
  rw[hfo.zero]
  rfl
 ·simp only at hj
  rw[hfo.zero] at hj
  omega
theorem zxl(hd:okD c m.D){v:Cl}(h:thK m.D v 1=true)(h6:¬ 60000<=tagA m.D v.n):0<=tagA m.D v.n/\tagA m.D v.n < c.funs.length/\((fnAt c (tagA m.D v.n)).free≠0->v.p=true/\∃ t,m.D v.n=some t/\t.kind=1/\(t.fs.length:Int)=(fnAt c (tagA m.D v.n)).free):=by
 obtain⟨h1,t,h2,h3⟩:=zat h
 have e:tagA m.D v.n=t.tag:=by unfold tagA;rw[h2];rfl
 rw[e] at h6 ⊢
 rcases(hd _ _ h2).f h3 with⟨a,b,d⟩ | h4
 ·exact⟨a,b,fun _=>⟨h1,t,h2,h3,d⟩⟩
 ·omega
theorem Mid.chain(h:Mid c T k m p){q:Nat}(hq:q < (fnAt c m.s.cur.num).ins.length)(hT:T m.s.cur.num.toNat q=T m.s.cur.num.toNat p){n:Nat}(hn:m.s.cur.vb<=n):Chain c T m.D m.s.tA (m.s.cA.dropLast++[{m.s.cur with pc:=q}]) m.s.sA.length n m.s.tA.length:=by
 refine .snoc _ _ _ _ _ h.ch ⟨h.cu.num,hq,h.cu.sb,hn,?_,fun j hj=>h.cu.tr j (by simp only at hj ⊢;omega),h.cu.fn⟩
 have:=h.cu.tb
 simp only at this ⊢
 rw[hT]
 exact this
theorem Mid.call(hc:CdOk c T)(h:Mid c T k m p)(hk:m.next<=k)(tail:Bool)(hn:m.s.cur.vb+2<=m.s.vA.length)(hpc:m.s.cur.pc=p+1)(hnx:tail=false->p+1 < (fnAt c m.s.cur.num).ins.length/\T m.s.cur.num.toNat (p+1)=T m.s.cur.num.toNat p):InvG c T k (AM.call ok c m tail):=by
 have h0:=zd5 h.va 0
 have h1:=zd5 h.va 1
 have hvl:=h.vl
 have htl:=h.tl
 have hcl:=h.cl
 unfold AM.call
 split
 ·rename_i hfun
  split
  ·split
   ·exact InvG.not (by show(4:Int)≠0;decide)
   ·refine h.act ok hk (zs4 h.d _ h0) hn (fun m2 v h2 e hv=>?_)
    cases tail with
    | true=>exact h2.giveS hv
    | false=>
     obtain⟨n1,n2⟩:=hnx rfl
     exact h2.putS (n:=2) (by rw[e];exact hn) hv (q:=p+1) (by rw[e];exact hpc) (by rw[e];exact n1) (by rw[e];exact n2)
  ·rename_i h6
   obtain⟨t1,t2,t3⟩:=zxl h.d hfun h6
   have hca:=h.ca
   rw[h.eq,zbd] at hca
   split
   ·intro _
    have hsb:=h.cu.sb
    have hvb:=h.cu.vb
    have htb:=h.cu.tb
    simp only at hsb hvb htb
    have e1:(m.s.sA.take m.s.cur.sb).length=m.s.cur.sb:=by rw[List.length_take];omega
    have e2:(m.s.vA.take m.s.cur.vb).length=m.s.cur.vb:=by rw[List.length_take];omega
    have e3:(m.s.tA.take m.s.cur.tb).length=m.s.cur.tb:=by rw[List.length_take];omega
    have hch:Chain c T m.D (m.s.tA.take m.s.cur.tb) m.s.cA.dropLast m.s.cur.sb m.s.cur.vb m.s.cur.tb:=h.ch.tA (fun j hj=>List.getElem?_take_of_lt hj)
    refine⟨h.st,by simp[St.enter],⟨?_,fun v hv=>?_,h.d,⟨h.nx.1,by have:=h.nx.2;simp only;omega⟩,?_,?_,?_,h.ou,by have:=h.st;simp only;omega,h.nd⟩⟩
    ·show Chain c T m.D (m.s.tA.take m.s.cur.tb) (m.s.cA.dropLast++[⟨_,_,_,0,(m.s.sA.take m.s.cur.sb).length,(m.s.vA.take m.s.cur.vb).length,(m.s.tA.take m.s.cur.tb).length⟩]) (m.s.sA.take m.s.cur.sb).length (m.s.vA.take m.s.cur.vb).length (m.s.tA.take m.s.cur.tb).length
     rw[e1,e2,e3]
     exact hch.enter hc _ _ _ ⟨t1,t2⟩ t3
    ·have hv2:v∈zY (m.s.cA.dropLast++[⟨_,m.s.top 1,m.s.top 0,0,_,_,_⟩])++(m.s.sA.take m.s.cur.sb++m.s.vA.take m.s.cur.vb):=hv
     rw[zbd] at hv2
     simp only[List.mem_append,zY,List.mem_cons,List.not_mem_nil,or_false] at hv2
     rcases hv2 with(h2 | h2 | h2) | h2 | h2
     ·exact hca v (List.mem_append.2 (Or.inl h2))
     ·rw[h2];exact h1
     ·rw[h2];exact h0
     ·exact h.sl v (List.mem_of_mem_take h2)
     ·exact h.va v (List.mem_of_mem_take h2)
    ·show(m.s.vA.take m.s.cur.vb).length<=k+1
     omega
    ·show(m.s.tA.take m.s.cur.tb).length<=k+1
     omega
    ·show(m.s.cA.dropLast++[_]).length<=500
     rw[lA,List.length_dropLast,List.length_singleton]
     have:m.s.cA.length≠0:=by rw[h.eq];simp
     omega
   ·rename_i htf
    obtain⟨n1,n2⟩:=hnx (by simpa using htf)
    split
    ·exact InvG.not (by show(3:Int)≠0;decide)
    ·rename_i h5
     intro _
     have hl:(m.s.drop 2).vA.length=m.s.vA.length - 2:=by simp[St.drop]
     refine⟨h.st,by simp[St.enter],⟨?_,fun v hv=>?_,h.d,⟨h.nx.1,by have:=h.nx.2;simp only;omega⟩,?_,?_,?_,h.ou,by have:=h.st;simp only;omega,h.nd⟩⟩
     ·have h2:=h.chain n1 n2 (n:=(m.s.drop 2).vA.length) (by omega)
      rw[show({m.s.cur with pc:=p+1} : Cal)=m.s.cur by rw[<-hpc],<-h.eq] at h2
      exact h2.enter hc _ _ _ ⟨t1,t2⟩ t3
     ·have hv2:v∈zY (m.s.cA++[⟨_,m.s.top 1,m.s.top 0,0,_,_,_⟩])++(m.s.sA++(m.s.drop 2).vA):=hv
      rw[zbd] at hv2
      simp only[List.mem_append,zY,List.mem_cons,List.not_mem_nil,or_false] at hv2
      rcases hv2 with(h2 | h2 | h2) | h2 | h2
      ·exact h.ca v h2
      ·rw[h2];exact h1
      ·rw[h2];exact h0
      ·exact h.sl v h2
      ·exact h.va v (List.mem_of_mem_take h2)
     ·show(m.s.drop 2).vA.length<=k+1
      omega
     ·show m.s.tA.length<=k+1
      omega
     ·show(m.s.cA++[_]).length<=500
      rw[lA,List.length_singleton]
      omega
 ·exact InvG.not (by show(4:Int)≠0;decide)
theorem zp7(hc:CdOk c T)(h:Mid c T k m p){x:In}{f:C12.Fn}{Tf:Nat->Nat}(hx:InOk c f Tf p x)(hf:f=fnAt c m.s.cur.num)(ht:¬ (m.s.has:Int) < zT c.funs x)(ho:x.op≠6/\x.op≠25/\x.op≠14/\x.op≠18/\x.op≠19/\x.op≠20/\x.op≠21/\x.op≠15/\x.op≠16/\x.op≠17/\x.op≠22):okA c m (zW c m.D m.s x):=by
 have htop:=zd5 h.va
 have hlast:∀ n,∀ v∈m.s.lastN n,okC v:=fun n v hv=>h.va v (List.mem_of_mem_drop hv)
 have hvb:=h.cu.vb
 simp only at hvb
 have hlen:∀ n:Nat,(n:Int)<=m.s.has->(m.s.lastN n).length=n:=fun n hn=>by
  unfold St.has at hn
  unfold St.lastN
  rw[List.length_drop]
  omega
 unfold zW
 refine zar (fun e=>zcy (hx.num (Or.inl e))) (fun e0=>?_)
 refine zar (fun e=>?_) (fun e1=>?_)
 ·have h1:=hx.str e
  refine zfb c ?_
  rw[gE (by omega),Option.getD_some]
  have:=hc.tx _ (List.getElem_mem (by omega:x.a.toNat < c.texts.length))
  simpa using this
 refine zar (fun e=>?_) (fun e2=>?_)
 ·have h1:=hx.bas e
  exact zp5 (by simp) (Or.inr (by omega)) (by simp)
 refine zar (fun e=>?_) (fun e3=>?_)
 ·have hca:=h.ca
  rw[h.eq,zbd] at hca
  exact hca _ (List.mem_append.2 (Or.inr (by simp[zY])))
 refine zar (fun e=>?_) (fun e4=>?_)
 ·have h1:=hx.fre e
  subst hf
  obtain⟨_,t,h2,h3,_⟩:=h.cu.fn (by simp only;omega)
  exact zec h.d h2 (by omega) _
 refine zar (fun e=>?_) (fun e5=>?_)
 ·unfold St.slot
  by_cases hi:m.s.cur.sb+x.a.toNat < m.s.sA.length
  ·rw[gE hi]
   exact h.sl _ (List.getElem_mem hi)
  ·rw[List.getElem?_eq_none (by omega)]
   exact zds
 refine zar (fun e=>?_) (fun e7=>?_)
 ·have h1:=hx.blo e
  have et:zT c.funs x=x.b:=by unfold zT;rw[if_neg (by omega),if_pos e]
  exact zjn (by rw[hlen _ (by omega)];omega) (by omega) (hlast _)
 refine zar (fun e=>?_) (fun e13=>?_)
 ·have h1:=hx.mak e
  have et:zT c.funs x=((c.funs[x.a.toNat]?).getD default).free:=by unfold zT;rw[if_neg (by omega),if_neg (by omega),if_pos e]
  have h2:=hx.takes
  refine zp5 (by rw[hlen _ (by omega)];omega) (Or.inl ⟨by omega,by omega,?_⟩) (hlast _)
  rw[hlen _ (by omega)]
  unfold fnAt
  omega
 refine zar (fun e=>zar (fun h1=>?_) (fun _=>trivial)) (fun e8=>?_)
 ·unfold hasF at h1
  simp only[Bool.and_eq_true] at h1
  obtain⟨_,t,h2,h3⟩:=zat h1.1
  exact zec h.d h2 (by omega) _
 refine zar (fun _=>zde _) (fun e9=>?_)
 refine zar (fun _=>zde _) (fun e10=>?_)
 refine zar (fun _=>zde _) (fun e11=>?_)
 refine zar (fun _=>zs0 h.d _ (htop 0)) (fun e12=>?_)
 refine zar (fun e=>?_) (fun e23=>?_)
 ·have h1:=hx.exn e
  refine⟨by simp,(fun e=>by simp at e),(fun e=>by simp at e),(fun e=>by simp at e),(fun e=>by simp at e),fun _=>⟨x.a,rfl,by omega,by omega,by simp only;omega⟩,fun _ v hv=>?_,by simp,(fun e=>by simp at e)⟩
  rw[List.mem_singleton.1 hv]
  have:=hc.nt
  exact zcy (by omega)
 ·have h0:=hx.op
  have h1:=hx.std (by omega)
  exact zcy (by omega)
theorem zb3{q:Prop} [Decidable q]{a b:AM}(h1:q->InvG c T k a)(h2:¬ q->InvG c T k b):InvG c T k (if q then a else b):=by
 by_cases h:q
 ·rw[if_pos h]
  exact h1 h
 ·rw[if_neg h]
  exact h2 h
theorem zsj{s:St}(hs:∀ v∈s.sA,okC v){i:Nat}{v:Cl}(hv:okC v):∀ u∈(s.store i v).sA,okC u:=fun u hu=>by
 have hu2:=hu
 rcases List.mem_or_eq_of_mem_set hu2 with h1 | h1
 ·unfold zhv at h1
  rcases List.mem_append.1 h1 with h1 | h1
  ·exact hs u h1
  ·rw[List.eq_of_mem_replicate h1]
   exact zds
 ·rw[h1]
  exact hv
theorem zo4(s:St)(i:Nat)(v:Cl):(s.store i v).sA.length=max s.sA.length (s.cur.sb+i+1):=by
 show((zhv s.sA (s.cur.sb+i+1)).set (s.cur.sb+i) v).length=_
 rw[List.length_set]
 unfold zhv
 rw[lA,List.length_replicate]
 omega
theorem zxs(hc:CdOk c T)(h:Mid c T k m p)(hk:m.next<=k){x:In}(hx:InOk c (fnAt c m.s.cur.num) (T m.s.cur.num.toNat) p x)(hpc:m.s.cur.pc=p+1):InvG c T k (AM.doI ok c m x):=by
 have htk:=hx.takes
 have hvl:=h.vl
 have htl:=h.tl
 have hsb:=h.cu.sb
 have hvb:=h.cu.vb
 have htb:=h.cu.tb
 simp only at hsb hvb htb
 have hcalls:m.s.cA=m.s.cA.dropLast++[{m.s.cur with pc:=p+1}]:=by
  rw[<-hpc]
  exact h.eq
 have hne:m.s.cA.length≠0:=by rw[h.eq];simp
 have hnx:¬ (x.op=18\/x.op=17\/x.op=16\/x.op=22)->¬ (x.op=20\/x.op=21)->p+1 < (fnAt c m.s.cur.num).ins.length/\T m.s.cur.num.toNat (p+1)=T m.s.cur.num.toNat p:=fun h1 h2=>by
  obtain⟨a,b⟩:=hx.next h1
  rw[if_neg (by omega),if_neg (by omega)] at b
  exact⟨a,b⟩
 unfold AM.doI AM.doT
 refine zb3 (fun _=>InvG.not (by show(4:Int)≠0;decide)) (fun ht=>?_)
 have hn:m.s.cur.vb+(zT c.funs x).toNat<=m.s.vA.length:=by
  unfold St.has at ht
  omega
 generalize hN:(zT c.funs x).toNat=N at *
 have hdl:∀ s:St,(s.drop N).vA.length=s.vA.length - N:=fun s=>by simp[St.drop]
 have hdv:∀ v∈(m.s.drop N).vA,okC v:=fun v hv=>h.va v (List.mem_of_mem_take hv)
 refine zb3 (fun e=>?_) (fun e6=>?_)
 ·intro _
  obtain⟨a,b⟩:=hnx (by omega) (by omega)
  have ha:=hx.slo (Or.inr (Or.inl e))
  have hl:=zo4 m.s x.a.toNat (m.s.top 0)
  refine⟨h.st,hne,h.go (p+1) hcalls a b rfl ?_ ?_ rfl rfl (zsj h.sl (zd5 h.va 0)) hdv rfl rfl⟩
  ·show m.s.cur.sb<=(m.s.store x.a.toNat (m.s.top 0)).sA.length/\(m.s.store x.a.toNat (m.s.top 0)).sA.length<=m.s.cur.sb+65536
   rw[hl]
   omega
  ·show m.s.cur.vb<=(m.s.drop N).vA.length/\(m.s.drop N).vA.length<=k+1
   rw[hdl]
   omega
 have hvr:m.s.cur.vb<=(m.s.drop N).vA.length/\(m.s.drop N).vA.length<=k+1:=by
  rw[hdl]
  omega
 refine zb3 (fun e=>?_) (fun e25=>?_)
 ·intro _
  obtain⟨a,b⟩:=hnx (by omega) (by omega)
  exact⟨h.st,hne,h.go (p+1) hcalls a b rfl hsb hvr rfl rfl h.sl hdv rfl rfl⟩
 refine zb3 (fun e=>zb3 (fun hf=>?_) (fun _=>InvG.not (by show(4:Int)≠0;decide))) (fun e14=>?_)
 ·intro _
  obtain⟨a,b⟩:=hnx (by omega) (by omega)
  unfold hasF at hf
  simp only[Bool.and_eq_true] at hf
  obtain⟨_,t,h2,h3⟩:=zat hf.1
  have h4:=h.set (i:=x.b.toNat) (zd5 h.va 0) h2 (Or.inl h3)
  exact⟨h.st,hne,h4.go (p+1) hcalls a b rfl hsb hvr rfl rfl h.sl hdv rfl rfl⟩
 refine zb3 (fun e=>?_) (fun e18=>?_)
 ·intro _
  obtain⟨_,_,a,b⟩:=hx.jump (Or.inl e)
  exact⟨h.st,by simp[St.goto,St.drop],h.go x.a.toNat rfl a b rfl hsb hvr rfl rfl h.sl hdv rfl rfl⟩
 refine zb3 (fun e=>zb3 (fun _=>InvG.not (by show(4:Int)≠0;decide)) (fun _=>?_)) (fun e19=>?_)
 ·intro _
  by_cases h1:(m.s.top 0).n=1
  ·simp only[if_pos h1]
   obtain⟨a,b⟩:=hnx (by omega) (by omega)
   exact⟨h.st,hne,h.go (p+1) hcalls a b rfl hsb hvr rfl rfl h.sl hdv rfl rfl⟩
  ·simp only[if_neg h1]
   obtain⟨_,_,a,b⟩:=hx.jump (Or.inr (Or.inl e))
   exact⟨h.st,by simp[St.goto,St.drop],h.go x.a.toNat rfl a b rfl hsb hvr rfl rfl h.sl hdv rfl rfl⟩
 refine zb3 (fun e=>?_) (fun e20=>?_)
 ·intro _
  obtain⟨a,b⟩:=hx.next (by omega)
  rw[if_pos e] at b
  obtain⟨_,_,j1,j2⟩:=hx.jump (Or.inr (Or.inr e))
  refine⟨h.st,hne,h.fin (p+1) hcalls a ?_ (fun j hj=>?_) (fun j hj=>?_) hsb hvr ?_ (fun y u hy=>⟨u,hy,rfl,rfl⟩) h.d h.nx h.nd h.sl hdv h.ou (by have:=h.st;show m.steps<=k+1;omega)⟩
  ·show _=(m.s.tA++[_]).length
   rw[lA,List.length_singleton]
   omega
  ·show ∃ t,(m.s.tA++[Tr.mk x.a.toNat m.s.has])[m.s.cur.tb+j]? = some t/\_
   by_cases hj2:j < T m.s.cur.num.toNat p
   ·rw[List.getElem?_append_left (by omega)]
    exact h.cu.tr j hj2
   ·rw[List.getElem?_append_right (by omega),show m.s.cur.tb+j - m.s.tA.length=0 by omega]
    exact⟨_,rfl,j1,by simp only;omega⟩
  ·show(m.s.tA++[_])[j]? = _
   rw[List.getElem?_append_left (by omega)]
  ·show(m.s.tA++[_]).length<=k+1
   rw[lA,List.length_singleton]
   omega
 refine zb3 (fun e=>?_) (fun e21=>?_)
 ·intro _
  obtain⟨a,b⟩:=hx.next (by omega)
  rw[if_neg (by omega),if_pos e] at b
  have hb:=hx.back e
  have hd:m.s.tA.dropLast.length=m.s.tA.length - 1:=List.length_dropLast
  have hget:∀ j,j < m.s.tA.length - 1->m.s.tA.dropLast[j]? = m.s.tA[j]?:=fun j hj=>by
   rw[List.dropLast_eq_take,List.getElem?_take_of_lt hj]
  refine⟨h.st,hne,h.fin (p+1) hcalls a ?_ (fun j hj=>?_) (fun j hj=>?_) hsb hvr ?_ (fun y u hy=>⟨u,hy,rfl,rfl⟩) h.d h.nx h.nd h.sl hdv h.ou (by have:=h.st;show m.steps<=k+1;omega)⟩
  ·show _=m.s.tA.dropLast.length
   omega
  ·show ∃ t,m.s.tA.dropLast[m.s.cur.tb+j]? = some t/\_
   rw[hget _ (by omega)]
   exact h.cu.tr j (by simp only;omega)
  ·exact hget j (by omega)
  ·show m.s.tA.dropLast.length<=k+1
   omega
 refine zb3 (fun e=>?_) (fun e15=>?_)
 ·have et:zT c.funs x=2:=by unfold zT;rw[if_neg (by omega),if_neg (by omega),if_neg (by omega),if_pos (by omega)]
  refine h.call ok hc hk _ (by omega) hpc (fun ht2=>?_)
  have:x.op≠16:=by simpa using ht2
  exact hnx (by omega) (by omega)
 refine zb3 (fun e=>h.giveS (zd5 h.va 0)) (fun e17=>?_)
 refine zb3 (fun e=>zb3 (fun hr=>?_) (fun _=>InvG.not (by show(4:Int)≠0;decide))) (fun e22=>?_)
 ·exact(h.drop hn).raise (zd5 h.va 0)
 ·obtain⟨a,b⟩:=hnx (by omega) (by omega)
  refine h.act ok hk (zp7 hc h hx rfl ht (by omega)) hn (fun m2 v h2 e hv=>?_)
  exact h2.putS (n:=N) (by rw[e];exact hn) hv (q:=p+1) (by rw[e];exact hpc) (by rw[e];exact a) (by rw[e];exact b)
theorem zsk(hc:CdOk c T)(h:Inv c T k m)(hg:m.goes):(AM.step ok c m).kind=0->(AM.step ok c m).s.cA.length≠0/\Inv c T (k+1) (AM.step ok c m):=by
 have hmid:=h.mid hg.2
 have hx:=h.ins hc hg.2
 have hcu:(m.s.goto (m.s.cur.pc+1)).cur={m.s.cur with pc:=m.s.cur.pc+1}:=zfi _ _
 have hd:=zxs ok hc hmid h.nx.2 (x:=m.ins c) (by simp only;rw[hcu];exact hx) (by simp only;rw[hcu])
 unfold AM.step
 generalize AM.doI ok c {m with s:=m.s.goto (m.s.cur.pc+1)} (m.ins c)=m' at *
 unfold AM.tick
 split
 ·rename_i h3
  intro e
  omega
 ·intro e
  obtain⟨h1,h2,h3⟩:=hd e
  exact⟨h2,h3.ch,h3.rt,h3.d,h3.nx,h3.vl,h3.tl,h3.cl,h3.ou,by simp only;omega,h3.nd⟩
end
end Go.Proofs.YtkcmachfagcnaaaGreatDoor
namespace Go.Proofs.YtkcmachfagcnaaaGreatDoor
open Go.RowKit Go.Deep Go.IntWalk
open C12 (Cd Fn In zT)
theorem zqu:(Tryz.prog.info? 5).map (fun i=>(i.zero,i.size,i.bytes))=some (some (.int .u8 0),1,1):=by kernel_rfl
theorem under62:Tryz.prog.underlying 62=some (.slice 5):=by kernel_rfl
theorem zw7(w:World):∃ cur:Array Value,cur.size=200/\(Instr.makeSlice 62 (.int .i64 0) (.int .i64 200)).run Tryz.prog w=.ok (.slice (some ⟨w.heap.size,0,none⟩) 0 200) (w.alloc (.cells cur 5)):=by
 obtain⟨i0,hi0,hz0,hz1,hz2⟩:=zap zqu
 have h:=run_make (P:=Tryz.prog) w 62 5 i0 _ under62 hi0 hz0 .i64 .i64 0 200 (by omega) (by omega) (by rw[hz2];omega) (by omega)
 exact⟨_,by simp[madeCells,hz1],h⟩
theorem own62(w:World)(cur:Array Value)(hc:cur.size=200):OwnB (w.alloc (.cells cur 5)) w.heap.size (.slice (some ⟨w.heap.size,0,none⟩) 0 200) []:=
 World.ownsRow_made w cur 200 (Nat.le_refl _) (by unfold maxLen;omega) (by rw[hc])
theorem zvg(q:Option Addr)(n c j:Nat)(hq:q=none->n=0/\c=0)(hz:∀ a,q=some a->a=⟨a.block,0,none⟩)(hj:j<=c)(wx:World):(Instr.slice 62 (.slice q n c) none (some (.int .i64 (j:Int))) none).run Tryz.prog wx=.ok (.slice q j c) wx:=by
 rw[run_slice_h (P:=Tryz.prog) wx 62 _ n c (by kernel_rfl) .i64 j (by omega) (by omega)]
 rw[show(sizeOf (Tryz.prog.elem 62)).run Tryz.prog wx=.ok 1 wx from by kernel_rfl]
 cases q with
 | none=>
  obtain⟨rfl,rfl⟩:=hq rfl
  obtain rfl:j=0:=by omega
  simp[Result.andThen,sliced]
 | some a=>
  rw[hz a rfl]
  simp[Result.andThen,sliced,zf7]
theorem zwu(n:Int)(j:Nat)(hj:j < 8):(za6 n)[j]? = some (UInt8.ofNat (((n % 18446744073709551616).toNat / 256 ^ (7 - j)) % 256)):=by
 unfold za6
 rw[List.getElem?_map,List.getElem?_range hj]
 rfl
theorem zlt(k:Nat)(h:k < 256):byteV (UInt8.ofNat k)=.int .u8 k:=by
 unfold byteV
 rw[UInt8.toNat_ofNat_of_lt' (by simpa using h)]
theorem zw0(U:Int)(r:Nat)(hr:r<=7)(w:World):(Op.shift .shr .u64 U .i64 (8 * (r:Int))).run Tryz.prog w=.ok (.int .u64 (U.fdiv (2 ^ (8 * r)))) w:=by
 unfold Op.shift
 rw[if_neg (by omega)]
 simp only
 rw[show min (8 * (r:Int)).toNat IntKind.u64.bits=8 * r by show min (8 * (r:Int)).toNat 64=8 * r;omega]
 rfl
theorem zrr(n:Int)(r:Nat):IntKind.u8.wrap ((IntKind.u64.wrap n).fdiv (2 ^ (8 * r)))=(((n % 18446744073709551616).toNat / 256 ^ r) % 256:Nat):=by
 have h1:IntKind.u64.wrap n=(((n % 18446744073709551616).toNat:Nat):Int):=by
  rw[IntKind.wrap_u64]
  omega
 rw[h1]
 generalize (n % 18446744073709551616).toNat=k
 have h2:(2:Int) ^ (8 * r)=((256 ^ r:Nat):Int):=by
  rw[Int.pow_mul,Int.natCast_pow]
  rfl
 rw[h2,Int.fdiv_eq_ediv_of_nonneg _ (Int.natCast_nonneg _),<-Int.natCast_ediv,IntKind.wrap_u8]
 omega
theorem ze1{α:Type}{l:List α}{j:Nat}{x:α}(h:l[j]? = some x):l.take (j+1)=l.take j++[x]:=by
 rw[List.take_add_one,h]
 rfl
section
variable{X:Fx}{w:World}{g:Pg}{m:AM}{R:Int->Int->Prop}
theorem zc4(h:J X w g m R)(hd:okD X.cd m.D)(a b:Cl)(hab:zI R a b)(hk:thK m.D b 2=true):∀ wx,Kp [] w wx->Calls Tryz.prog 113 #[.pointer (some ⟨X.mm,0,none⟩),.agg #[.bool a.p,.int .i64 a.n]] wx fun e w'=>e=.returned (.string ⟨(bytesA m.D b.n).toArray⟩)/\Kp [] w w':=by
 intro w0 hk0
 obtain⟨hap,hbp,th,u,ht,hu,hth,hkd⟩:=zdo h hab hk
 obtain⟨ap,an⟩:=a
 simp only at hap ht
 subst hap
 have hou:=hd _ _ hu
 have huk:u.kind=2:=by rw[<-hth.kind];exact hkd
 obtain⟨g1,g2,g3⟩:=hou.tx huk
 have hnp:=hou.tp huk
 have hfl:=hth.fs.len
 have hfs:∀ i (hi:i < u.fs.length),th.fs[i]'(by omega)=u.fs[i]'hi:=fun i hi=>by
  obtain⟨e1,e2,_⟩:=hth.fs.at_ i (by omega) hi
  have e3:=hnp _ (List.getElem_mem hi)
  have e4:=e2 (by rw[e1];exact e3)
  cases h1:th.fs[i]'(by omega)
  cases h2:u.fs[i]'hi
  rw[h1,h2] at e1 e4
  simp only at e1 e4
  rw[e1,e4]
 have hbs:bytesA m.D b.n=(u.fs.flatMap fun c=>za6 c.n).take u.tag.toNat:=by
  unfold bytesA tagA
  rw[hu]
  rfl
 rw[hbs]
 simp only
 have hk1:Kp [] w (w0.alloc (.cells #[.bool true,.int .i64 an] 67)):=hk0.trans kA
 have hJ1:=h.kp hk1
 have hbx:(w0.alloc (.cells #[.bool true,.int .i64 an] 67)).heap[w0.heap.size]? = some (.cells #[.bool true,.int .i64 an] 67):=zab w0 _
 have HF:Hid (∀ wx,Kp [] (w0.alloc (.cells #[.bool true,.int .i64 an] 67)) wx->(wx.cell? ⟨w0.heap.size,0,none⟩=some (.bool true)/\wx.cell? ⟨w0.heap.size,1,none⟩=some (.int .i64 an)/\w0.heap.size < wx.heap.size)/\wx.cell? ⟨X.mm,2,none⟩=some (.pointer (some ⟨X.hp,0,none⟩))/\X.mm < wx.heap.size):=fun wx hx=>by
  have e1:=(hx.block _ (sz hbx) (by simp)).trans hbx
  have hb1:=(hJ1.box.kp hx (by simp)).heap
  exact⟨⟨by simp only[World.cell?,e1];rfl,by simp only[World.cell?,e1];rfl,(sz e1)⟩,hb1⟩
 have HP:Hid (∀ wr,Kp [] (w0.alloc (.cells #[.bool true,.int .i64 an] 67)) wr->∀ wx,Kp [] wr wx->(Calls Tryz.prog 76 #[.pointer (some ⟨X.hp,0,none⟩),.int .i64 an] wx fun e w'=>e=.returned (.int .i64 u.fs.length)/\Kp [] wr w')/\(Calls Tryz.prog 78 #[.pointer (some ⟨X.hp,0,none⟩),.int .i64 an] wx fun e w'=>e=.returned (.int .i64 (u.tag.toNat:Nat))/\Kp [] wr w')/\∀ i (hi:i < u.fs.length),Calls Tryz.prog 82 #[.pointer (some ⟨X.hp,0,none⟩),.int .i64 an,.int .i64 (i:Nat)] wx fun e w'=>e=.returned (.agg #[.bool false,.int .i64 (u.fs[i]'hi).n])/\Kp [] wr w'):=fun wr hr wx hx=>by
  obtain⟨_,p1,p2,p3⟩:=(hJ1.kp hr).pget wx hx an th ht
  refine⟨?_,?_,fun i hi=>?_⟩
  ·rw[hfl] at p2
   exact p2
  ·rw[hth.tag,show u.tag=((u.tag.toNat:Nat):Int) by omega] at p1
   exact p1
  ·have:=p3 i (by omega)
   rw[hfs i hi] at this
   have e3:=hnp _ (List.getElem_mem hi)
   unfold Cl.val at this
   rw[e3] at this
   exact this
 have Hg:Hid (u.tag.toNat<=200/\u.fs.length<=25/\u.tag.toNat<=8 * u.fs.length):=⟨by omega,by omega,by omega⟩
 have HK1:=zh hk1
 clear hJ1 hbx h hab hk0 hk1 hbp ht hu hth hkd hou huk g1 g2 g3 hnp hfl hfs hbs hd hk
 generalize u.tag.toNat=tg at *
 generalize u.fs=fs at *
 go_enter Tryz.func113,Tryz.ntmps113
 go_upto_region 1 with fail
 generalize w0.alloc _=w1 at *
 generalize w0.heap.size=b0 at *
 obtain⟨cur,hcs,hmk⟩:=zw7 w1
 have HO:=zh (own62 w1 cur hcs)
 have HK2:Hid (Kp [] w1 (w1.alloc (.cells cur 5))):=kA
 clear hcs
 go_upto_region 2 with fail
 generalize w1.alloc _=w2 at *
 have HK0:Hid (Kp [] w2 w2.drew):=kr.drew
 have HR:=zh HK2.o
 have HLen:=zh (fun wx (hx:Kp [] w2 wx)=>(HP.o w2 HK2.o wx hx).1)
 refine rQ HK0.o (fun ops Hops=>?_)
 repeat
  (refine wQ ?_;apply xI;(·intro wx hwx;obtain⟨⟨f0,f1,f2⟩,f3,f4⟩:=HF.o wx (HR.o.trans hwx);go_simp <;> first | with_reducible rfl | with_reducible exact⟨rfl,rfl⟩ | exact HLen.o _ hwx);try go_simp)
 refine wpQuiet_nil ?_
 clear Hops ops
 intro w3 hw3
 have Hw3:=zh (HK2.o.trans hw3)
 have HO3:Hid (OwnB w3 w1.heap.size (.slice (some ⟨w1.heap.size,0,none⟩) 0 200) []):=zaf HO.o hw3 (by simp)
 clear hw3 hmk
 generalize hB1:w1.heap.size=bb at *
 have HB1:=zh hB1.symm
 clear hB1
 go_wp2_with fail
 go_loopw [17,5] (fun iv v wr=>∃ (i:Nat),i<=fs.length/\iv=.int .i64 (i:Nat)/\Hid (Kp [] w1 wr/\OwnB wr bb v ((fs.take i).flatMap fun c=>za6 c.n))/\∃ q c,v=.slice q (8 * i) c) (fun i _ _=>fs.length - (intOf i).toNat)
 case atStart=>
  exact⟨0,Nat.zero_le _,rfl,⟨Hw3.o,HO3.o⟩,_,_,rfl⟩
 case round=>
  obtain⟨i,hi,rfl,HL,q,cp,rfl⟩:=hrel
  have HR:=zh HL.o.1
  have HK0:Hid (Kp [] wr wr.drew):=kr.drew
  by_cases hin:i < fs.length
  ·have h1:=Int.ofNat_lt.2 hin
   have h2:=zge i (by have:=Hg.o;omega)
   have HGet:=zh (fun wx (hx:Kp [] wr wx)=>(HP.o wr HR.o wx hx).2.2 i hin)
   generalize hn:(fs[i]'hin).n=n at *
   have hf67:=za9 false n
   have Hn:Hid (za6 (fs[i]'hin).n=za6 n):=by unfold Hid;rw[hn]
   clear hn
   go_upto_region 5 with fail
   refine rQ HK0.o (fun ops Hops=>?_)
   repeat
    (refine wQ ?_;apply xI;(·intro wx hwx;obtain⟨⟨f0,f1,f2⟩,f3,f4⟩:=HF.o wx (HR.o.trans hwx);go_simp <;> first | with_reducible rfl | with_reducible exact⟨rfl,rfl⟩ | exact HGet.o _ hwx);try go_simp)
   refine wpQuiet_nil ?_
   clear Hops ops
   intro w4 hw4
   have Hw4:Hid (_/\OwnB w4 bb (.slice q (8 * i) cp) ((fs.take i).flatMap fun c=>za6 c.n)):=⟨HR.o.trans hw4,zaf HL.o.2 hw4 (by simp)⟩
   clear hw4 hf67
   go_wp2_with fail
   go_loopw [8,5] (fun rv v wr2=>∃ (j:Nat),j<=8/\rv=.int .i64 (7 - (j:Int))/\Hid (Kp [] w1 wr2/\OwnB wr2 bb v (((fs.take i).flatMap fun c=>za6 c.n)++(za6 n).take j))/\∃ q c,v=.slice q (8 * i+j) c) (fun rv _ _=>(intOf rv+1).toNat)
   case atStart=>exact⟨0,Nat.zero_le _,rfl,⟨Hw4.o.1,by simpa using Hw4.o.2⟩,_,_,rfl⟩
   case round=>
    rename World=>wr2
    obtain⟨j,hj,rfl,HL2,q2,cp2,rfl⟩:=hrel
    by_cases hj8:j < 8
    ·obtain⟨r,hr⟩:∃ r:Nat,r=7 - j:=⟨_,rfl⟩
     have hr2:7 - (j:Int)=(r:Int):=by omega
     rw[hr2]
     have hge:(0:Int)<=(r:Int):=Int.natCast_nonneg _
     have hw8:=zot r (by omega)
     obtain⟨by8,hby⟩:∃ k:Nat,k=((n % 18446744073709551616).toNat / 256 ^ r) % 256:=⟨_,rfl⟩
     have hsh:=zw0 (IntKind.u64.wrap n) r (by omega)
     have hcv:IntKind.u8.wrap ((IntKind.u64.wrap n).fdiv (2 ^ (8 * r)))=(by8:Int):=by rw[hby];exact zrr n r
     have Hcell:Hid ((za6 n)[j]? = some (UInt8.ofNat by8)/\byteV (UInt8.ofNat by8)=.int .u8 by8):=by
      refine⟨?_,zlt _ (by rw[hby];exact Nat.mod_lt _ (by decide))⟩
      rw[zwu n j hj8,hby,hr]
     have Hj:Hid (_/\_):=⟨hj8,hr2⟩
     have Hbl:Hid (bb<=wr2.heap.size):=by
      have h1:=HL2.o.1.size
      have h2:=HB1.o
      unfold Hid
      omega
     have hownA:OwnB (wr2.alloc (.cells #[.int .u8 (by8:Int)] 5)) bb (Value.slice q2 (8 * i+j) cp2) (((fs.take i).flatMap fun c=>za6 c.n)++(za6 n).take j):=zaf HL2.o.2 kA (by simp)
     have hnews:(wr2.alloc (.cells #[.int .u8 (by8:Int)] 5)).heap[wr2.heap.size]? = some (.cells #[.int .u8 (by8:Int)] 5):=zab wr2 _
     have Hlen:Hid ((((fs.take i).flatMap fun c=>za6 c.n)++(za6 n).take j).length=8 * i+j):=by
      unfold Hid
      rw[lA,zd0,List.length_take,List.length_take,zfz]
      omega
     have hown:(wr2.alloc (.cells #[.int .u8 (by8:Int)] 5)).ownsRow bb 5 1 (Value.slice q2 (8 * i+j) cp2) (8 * i+j) ((((fs.take i).flatMap fun c=>za6 c.n)++(za6 n).take j).map byteV):=by
      unfold OwnB at hownA
      rw[Hlen.o] at hownA
      exact hownA
     have hsmall:8 * i+j+1<=1000:=by have:=Hg.o;omega
     clear hr hr2 hby hownA hj8 hj
     generalize (IntKind.u64.wrap n).fdiv (2 ^ (8 * r))=sv at *
     obtain⟨i0,hi0,hz0,hz1,hz2⟩:=zap zqu
     go_wp2_with (at_builtin;refine wpList_append_own_at _ rfl _ _ 62 rfl bb 5 i0 (.int .u8 0) 1 1 under62 hi0 hz0 hz1 hz2 rfl (by omega) _ _ _ rfl hown ⟨wr2.heap.size,0,none⟩ 1 1 [.int .u8 (by8:Int)] rfl rfl (World.news_of_block hnews) (by simp[Value.oneCell']) (by unfold maxLen;omega) (by omega) (by have:=Hbl.o;simp;omega) ?_)
     intro v' w5 k1 kg _ _
     have hk5:Kp [] w1 w5:=by
      refine(HL2.o.1.trans kA).then (Kp.of_grown (X:=(Value.slice q2 (8 * i+j) cp2).ownBlock.toList) kg (by intro k hk;simpa using hk)) (fun x hx=>?_)
      have:=(za8 hown x (by simpa using hx)).1
      have:=HB1.o
      exact Or.inr (by omega)
     have Q:Hid (Kp [] w1 w5/\OwnB w5 bb v' (((fs.take i).flatMap fun c=>za6 c.n)++(za6 n).take (j+1))):=by
      refine⟨hk5,?_⟩
      unfold OwnB
      rw[ze1 Hcell.o.1,<-List.append_assoc,List.map_append,lA,Hlen.o,List.map_cons,List.map_nil,Hcell.o.2]
      simpa using k1
     obtain⟨q5,c5,rfl,_⟩:=zah k1
     clear k1 kg hk5 hown hnews hsh hcv hw8 hge
     have hdec:wrap64 ((r:Int) - 1)=(r:Int) - 1:=wrap64_in _ (by have:=Hj.o;omega)
     go_wp2_with fail
     go_roundw
     case rel=>exact⟨j+1,Hj.o.1,by have:=Hj.o.2;first | rfl | (congr 1;omega),Q,_,_,rfl⟩
     case measure=>have:=Hj.o;simp[intOf];omega
    ·have hj9:j=8:=by omega
     subst hj9
     have hneg:¬ ((0:Int)<=7 - ((8:Nat):Int)):=by omega
     have Hend:Hid (Kp [] w1 wr2/\OwnB wr2 bb (.slice q2 (8 * (i+1)) cp2) ((fs.take (i+1)).flatMap fun c=>za6 c.n)):=by
      refine⟨HL2.o.1,?_⟩
      have h3:=HL2.o.2
      rw[show(za6 n).take 8=za6 n from List.take_of_length_le (by rw[zfz];exact Nat.le_refl _)] at h3
      rw[ze1 (gE hin),List.flatMap_append,show 8 * (i+1)=8 * i+8 by omega]
      simp only[List.flatMap_cons,List.flatMap_nil,List.append_nil]
      rw[Hn.o]
      exact h3
     clear hj hj8
     rw[show(7 - ((8:Nat):Int))=-1 by omega]
     clear hneg
     go_wp2_with fail
     go_roundw
     case rel=>exact⟨i+1,hin,by first | rfl | (congr 1;omega) | go_num,Hend,_,_,by rw[show 8 * (i+1)=8 * i+8 by omega]⟩
     case measure=>rw[h2];clear h2;simp[intOf];omega
  ·have e:=zdf hi hin
   subst e
   have h1:¬ ((fs.length:Int) < (fs.length:Int)):=Int.lt_irrefl _
   rw[List.take_of_length_le (Nat.le_refl _)] at HL
   have HTag:=zh (fun wx (hx:Kp [] wr wx)=>(HP.o wr HR.o wx hx).2.1)
   have hoc:=zah HL.o.2
   obtain⟨q0,c0,e0,hc0,hq0,hz0⟩:=hoc
   have hlen8:=zd0 fs
   rw[hlen8] at e0 hc0 hq0
   cases e0
   have hsl:=zvg q (8 * fs.length) cp tg hq0 hz0 (by have:=Hg.o;omega)
   have Hcv:Hid (∀ wx,Kp [] wr wx->(convert 62 9 (.slice q tg cp)).run Tryz.prog wx=.ok (.string ⟨((fs.flatMap fun c=>za6 c.n).take tg).toArray⟩) wx):=fun wx hx=>by
    have ho:=zaf HL.o.2 hx (by simp)
    rw[hlen8] at ho
    obtain⟨ho2,_⟩:=ze9 ho (show tg<=8 * fs.length by have:=Hg.o;omega)
    rw[Nat.mul_one,<-List.map_take] at ho2
    have hl2:((fs.flatMap fun c=>za6 c.n).take tg).length=tg:=by rw[List.length_take,hlen8];have:=Hg.o;omega
    have ho3:wx.ownsRow bb 5 1 (.slice q tg cp) ((fs.flatMap fun c=>za6 c.n).take tg).length (C12.byteCells ((fs.flatMap fun c=>za6 c.n).take tg)):=by
     rw[hl2]
     exact ho2
    exact C12.zgo ho3
   generalize hbl:(fs.flatMap fun c=>za6 c.n).take tg=bl at *
   have Hbl:=zh hbl
   clear hbl
   clear hlen8 hc0 hq0 hz0
   go_upto_region 11 with fail
   refine rQ HK0.o (fun ops Hops=>?_)
   repeat
    (refine wQ ?_;apply xI;(first | (·intro wx hwx;obtain⟨⟨f0,f1,f2⟩,f3,f4⟩:=HF.o wx (HR.o.trans hwx);go_simp <;> first | with_reducible rfl | with_reducible exact⟨rfl,rfl⟩ | exact HTag.o _ hwx) | (·intro wx hwx;obtain⟨⟨f0,f1,f2⟩,f3,f4⟩:=HF.o wx (HR.o.trans hwx);have hcv:=Hcv.o wx hwx;go_simp <;> first | rfl | exact⟨rfl,rfl⟩));try go_simp)
   refine wpQuiet_nil ?_
   clear Hops ops
   intro w4 hw4
   have Q:=zh (HK1.o.trans (HR.o.trans hw4))
   clear hw4 hsl
   go_wp2_with fail
   exact bodyPost_ret (v:=.string ⟨bl.toArray⟩) (by simp[results,Tryz.results113,go_sem]) rfl ⟨by rw[Hbl.o],Q.o⟩
end
end Go.Proofs.YtkcmachfagcnaaaGreatDoor
