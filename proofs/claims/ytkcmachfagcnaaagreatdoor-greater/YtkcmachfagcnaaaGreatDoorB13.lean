/- Part of Greater. -/
import Derived.Laws.AppendOwnNone
import Derived.Test.YtkcmachfagcnaaaGreatDoorB00
set_option maxHeartbeats 8000000
set_option maxRecDepth 100000
namespace Go.Proofs.YtkcmachfagcnaaaGreatDoor
open Go.RowKit Go.Deep
structure Cl where
 p:Bool
 n:Int
deriving DecidableEq
instance:Inhabited Cl:=⟨⟨false,0⟩⟩
structure Th where
 kind:Int
 tag:Int
 fs:List Cl
instance:Inhabited Th:=⟨⟨0,0,[]⟩⟩
abbrev Doc:=Int->Option Th
inductive Reach(D:Doc)(rs:List Cl):Int->Prop
 | root (b:Int) (h:⟨true,b⟩∈rs):Reach D rs b
 | field (a b:Int) (t:Th) (h:Reach D rs a) (ht:D a=some t) (hf:⟨true,b⟩∈t.fs):Reach D rs b
def fsOf(D:Doc)(b:Int):List Cl:=((D b).getD default).fs
def zU(D:Doc):List Int->Nat
 | []=>0
 | b :: V=>1+(fsOf D b).length+zU D V
def zc1(D:Doc):List Int->Nat
 | []=>0
 | b :: V=>(fsOf D b).length+zc1 D V
theorem zlr(D:Doc)(V:List Int)(b:Int):zU D (V++[b])=zU D V+1+(fsOf D b).length:=by
 induction V with
 | nil=>simp[zU]
 | cons a V ih=>simp[zU,ih];omega
theorem zef(D:Doc)(V:List Int):zU D V=V.length+zc1 D V:=by
 induction V with
 | nil=>rfl
 | cons a V ih=>simp[zU,zc1,ih];omega
theorem zfh(D:Doc)(W:List Int){b:Int}(h:b∈W):zc1 D W=(fsOf D b).length+zc1 D (W.erase b):=by
 induction W with
 | nil=>cases h
 | cons a W ih=>
  by_cases hab:a=b
  ·subst hab
   rw[List.erase_cons_head,zc1]
  ·have hb:b∈W:=by
    rcases List.mem_cons.1 h with h | h
    ·exact absurd h.symm hab
    ·exact h
   rw[List.erase_cons_tail (by simpa using hab),zc1,zc1,ih hb]
   omega
theorem zdy(D:Doc):∀ (V W:List Int),V.Nodup->(∀ x∈V,x∈W)->zc1 D V<=zc1 D W
 | [],_,_,_=>Nat.zero_le _
 | b :: V,W,hn,hs=>by
  have hn':=List.nodup_cons.1 hn
  rw[zc1,zfh D W (hs b (by simp))]
  have:=zdy D V (W.erase b) hn'.2 (fun y hy=>(List.mem_erase_of_ne (fun(e:y=b)=>hn'.1 (e ▸ hy))).2 (hs y (by simp[hy])))
  omega
theorem zig:∀ (a b:List Int),a.Nodup->(∀ x∈a,x∈b)->a.length<=b.length
 | [],b,_,_=>Nat.zero_le _
 | x :: a,b,hn,hs=>by
  have hn':=List.nodup_cons.1 hn
  have hx:=hs x (by simp)
  have:=zig a (b.erase x) hn'.2 (fun y hy=>(List.mem_erase_of_ne (fun(e:y=x)=>hn'.1 (e ▸ hy))).2 (hs y (by simp[hy])))
  rw[List.length_erase_of_mem hx] at this
  have:0 < b.length:=List.length_pos_of_mem hx
  simp
  omega
theorem zls(D:Doc){V W:List Int}(hV:V.Nodup)(hW:W.Nodup)(h:∀ b,b∈V↔b∈W):zU D V=zU D W:=by
 have h1:=zdy D V W hV (fun x hx=>(h x).1 hx)
 have h2:=zdy D W V hW (fun x hx=>(h x).2 hx)
 have h3:=zig V W hV (fun x hx=>(h x).1 hx)
 have h4:=zig W V hW (fun x hx=>(h x).2 hx)
 rw[zef,zef]
 omega
def keptD(D:Doc)(V:List Int):Doc:=fun b=>if b∈V then D b else none
inductive LiveIs(D:Doc)(rs:List Cl)(n:Nat)(D':Doc):Prop
 | mk (V:List Int) (hn:V.Nodup) (hV:∀ b,b∈V↔Reach D rs b) (hc:n=zU D V) (hD:D'=keptD D V):LiveIs D rs n D'
theorem zf7(g o j:Nat):(⟨g,o,none⟩:Addr).add j=⟨g,o+j,none⟩:=by unfold Addr.add;split <;> simp_all
def Cl.vals(c:Cl):List Value:=[.bool c.p,.int .i64 c.n]
def Cl.val(c:Cl):Value:=.agg #[.bool c.p,.int .i64 c.n]
structure RowC(w:World)(p:Option Addr)(l:List Cl):Prop where
 len:l.length<=maxLen
 get:∀ i (hi:i < l.length),∃ b o,p=some ⟨b,o,none⟩/\w.cell? ⟨b,o+i * 2,none⟩=some (.bool (l[i]'hi).p)/\w.cell? ⟨b,o+i * 2+1,none⟩=some (.int .i64 (l[i]'hi).n)
def zbv(l:List Cl):List Value:=l.flatMap Cl.vals
theorem zhz(a b:List Cl):zbv (a++b)=zbv a++zbv b:=by simp[zbv]
theorem zhy(l:List Cl):(zbv l).length=l.length * 2:=by
 induction l with
 | nil=>rfl
 | cons x r ih=>
  have:zbv (x :: r)=x.vals++zbv r:=rfl
  rw[this,lA,ih]
  simp[Cl.vals]
  omega
theorem zbh:∀ (l:List Cl) (i:Nat) (hi:i < l.length) (j:Nat),j < 2->(zbv l)[i * 2+j]? = (l[i]'hi).vals[j]?
 | x :: r,0,_,j,hj=>by
  have:zbv (x :: r)=x.vals++zbv r:=rfl
  rw[this,Nat.zero_mul,Nat.zero_add,List.getElem?_append_left (by simp[Cl.vals];omega)]
  rfl
 | x :: r,i+1,hi,j,hj=>by
  have:zbv (x :: r)=x.vals++zbv r:=rfl
  rw[this,List.getElem?_append_right (by simp[Cl.vals];omega)]
  have e:(i+1) * 2+j - x.vals.length=i * 2+j:=by simp[Cl.vals];omega
  rw[e,zbh r i (by simpa using hi) j hj]
  rfl
def OwnC(w:World)(base:Nat)(v:Value)(l:List Cl):Prop:=w.ownsRow base 67 2 v l.length (zbv l)
theorem zqv:(Tryz.prog.info? 67).map (fun i=>(i.zero,i.size,i.bytes))=some (some (.agg #[.bool false,.int .i64 0]),2,16):=by kernel_rfl
theorem zo7:Tryz.prog.underlying 60=some (.slice 67):=by kernel_rfl
theorem zap{t:TypeId}{z:Option Value}{n b:Nat}(h:(Tryz.prog.info? t).map (fun i=>(i.zero,i.size,i.bytes))=some (z,n,b)):∃ i,Tryz.prog.info? t=some i/\i.zero=z/\i.size=n/\i.bytes=b:=by
 cases hi:Tryz.prog.info? t with
 | none=>rw[hi] at h;cases h
 | some i=>
  rw[hi] at h
  simp only[Option.map_some,Option.some.injEq,Prod.mk.injEq] at h
  exact⟨i,rfl,h.1,h.2.1,h.2.2⟩
def wfC(c:Cl):Prop:=(Lit.int .i64 c.n).wf=true
theorem zab(w:World)(o:Obj):(w.alloc o).heap[w.heap.size]? = some o:=by
 show(w.heap.push o)[w.heap.size]? = some o
 simp
theorem zhu{x:Int}(h:-9223372036854775808<=x/\x<=9223372036854775807):(Lit.int .i64 x).wf=true:=by
 have h1:IntKind.i64.min=-9223372036854775808:=by decide
 have h2:IntKind.i64.max=9223372036854775807:=by decide
 simp[Lit.wf,h1,h2]
 omega
theorem OwnC.keep{w w':World}{base:Nat}{v:Value}{l:List Cl}(h:OwnC w base v l)(hk:∀ k,v.ownBlock=some k->w'.heap[k]? = w.heap[k]?):OwnC w' base v l:=by
 obtain⟨q1,q2⟩:=h
 refine⟨q1,?_⟩
 rcases q2 with q2 | ⟨g,cap,cur,qv,qg,qh,qq⟩
 ·exact .inl q2
 ·exact .inr ⟨g,cap,cur,qv,qg,(hk g (by rw[qv];rfl)).trans qh,qq⟩
structure OneOne(R:Int->Int->Prop):Prop where
 l:∀ x y z,R x y->R x z->y=z
 r:∀ x y z,R x z->R y z->x=y
theorem zac{P:Program}{C:World->Prop}{id:Nat}{Q:Exit->Act->World->Prop}{a:Act}{w:World}{l:List Oper}(hm:P.follows .mixedOrders=true)(hB:Region.lexB .any l.toArray=true)(hC:C w.drew)
  (h:wpQuiet P l.toArray C (fun a'=>∀ w',C w'->Q .normal a' w') l a):(Code.region id l.toArray true).wp P Q a w:=wp_region_quiet (C:=C) hm hB hC (by simpa using h)
def zI(R:Int->Int->Prop)(a b:Cl):Prop:=a.p=b.p/\(a.p=false->a.n=b.n)/\(a.p=true->R a.n b.n)
structure zV(R:Int->Int->Prop)(l k:List Cl):Prop where
 len:l.length=k.length
 at_:∀ i (hi:i < l.length) (hk:i < k.length),zI R (l[i]'hi) (k[i]'hk)
structure ThIso(R:Int->Int->Prop)(t u:Th):Prop where
 kind:t.kind=u.kind
 tag:t.tag=u.tag
 fs:zV R t.fs u.fs
structure Iso(P D:Doc)(R:Int->Int->Prop)(ps qs:List Cl):Prop where
 one:OneOne R
 roots:zV R ps qs
 things:∀ x y,R x y->∃ t u,P x=some t/\D y=some u/\ThIso R t u
theorem zI.mono{R S:Int->Int->Prop}{a b:Cl}(h:zI R a b)(hS:a.p=true->R a.n b.n->S a.n b.n):zI S a b:=⟨h.1,h.2.1,fun e=>hS e (h.2.2 e)⟩
theorem zV.mem{R:Int->Int->Prop}{l k:List Cl}(h:zV R l k){a:Cl}(ha:a∈l):∃ b∈k,zI R a b:=by
 obtain⟨i,hi,rfl⟩:=List.mem_iff_getElem.1 ha
 exact⟨k[i]'(h.len ▸ hi),List.getElem_mem _,h.at_ i hi _⟩
theorem zV.mem'{R:Int->Int->Prop}{l k:List Cl}(h:zV R l k){b:Cl}(hb:b∈k):∃ a∈l,zI R a b:=by
 obtain⟨i,hi,rfl⟩:=List.mem_iff_getElem.1 hb
 exact⟨l[i]'(h.len ▸ hi),List.getElem_mem _,h.at_ i _ hi⟩
theorem zV.snoc{R:Int->Int->Prop}{l k:List Cl}(h:zV R l k){a b:Cl}(hab:zI R a b):zV R (l++[a]) (k++[b]):=by
 refine⟨by simp[h.len],fun i hi hk=>?_⟩
 have hlen:=h.len
 by_cases h':i < l.length
 ·rw[List.getElem_append_left h',List.getElem_append_left (by omega)]
  exact h.at_ i h' (by omega)
 ·have e:i=l.length:=by simp at hi;omega
  subst e
  simp[hlen]
  exact hab
theorem zV.set{R:Int->Int->Prop}{l k:List Cl}(h:zV R l k)(j:Nat){a b:Cl}(hab:zI R a b):zV R (l.set j a) (k.set j b):=by
 refine⟨by simp[h.len],fun i hi hk=>?_⟩
 rw[List.getElem_set,List.getElem_set]
 by_cases e:j=i
 ·rw[if_pos e,if_pos e]
  exact hab
 ·rw[if_neg e,if_neg e]
  exact h.at_ i (by simpa using hi) (by simpa using hk)
theorem zV.mono{R S:Int->Int->Prop}{l k:List Cl}(h:zV R l k)(hS:∀ x y,⟨true,x⟩∈l->R x y->S x y):zV S l k:=
 ⟨h.len,fun i hi hk=>(h.at_ i hi hk).mono (fun e hR=>hS _ _ (by
  have:=List.getElem_mem hi
  rwa [show(l[i]'hi)=⟨true,(l[i]'hi).n⟩ from by rw[<-e]] at this) hR)⟩
theorem zV.zeros(R:Int->Int->Prop)(n:Nat):zV R (List.replicate n default) (List.replicate n default):=
 ⟨rfl,fun i hi hk=>by
  rw[List.getElem_replicate]
  exact⟨rfl,fun _=>rfl,fun e=>by cases e⟩⟩
theorem Iso.reach{P D:Doc}{R:Int->Int->Prop}{ps qs:List Cl}(h:Iso P D R ps qs){x:Int}(hx:Reach P ps x):∃ y,R x y/\Reach D qs y:=by
 induction hx with
 | root b hb=>
  obtain⟨⟨cp,cn⟩,hc,h1,_,h3⟩:=h.roots.mem hb
  simp only at h1 h3
  subst h1
  exact⟨cn,h3 (by first | trivial | rfl),Reach.root cn hc⟩
 | field a b t _ ht hf ih=>
  obtain⟨y,hR,hy⟩:=ih
  obtain⟨t',u,e1,e2,hth⟩:=h.things a y hR
  rw[ht] at e1
  cases e1
  obtain⟨⟨cp,cn⟩,hc,h1,_,h3⟩:=hth.fs.mem hf
  simp only at h1 h3
  subst h1
  exact⟨cn,h3 (by first | trivial | rfl),Reach.field y cn u hy e2 hc⟩
theorem Iso.reach'{P D:Doc}{R:Int->Int->Prop}{ps qs:List Cl}(h:Iso P D R ps qs){y:Int}(hy:Reach D qs y):∃ x,R x y/\Reach P ps x:=by
 induction hy with
 | root b hb=>
  obtain⟨⟨cp,cn⟩,hc,h1,_,h3⟩:=h.roots.mem' hb
  simp only at h1 h3
  subst h1
  exact⟨cn,h3 rfl,Reach.root cn hc⟩
 | field a b t _ ht hf ih=>
  obtain⟨x,hR,hx⟩:=ih
  obtain⟨t',u,e1,e2,hth⟩:=h.things x a hR
  rw[ht] at e2
  cases e2
  obtain⟨⟨cp,cn⟩,hc,h1,_,h3⟩:=hth.fs.mem' hf
  simp only at h1 h3
  subst h1
  exact⟨cn,h3 rfl,Reach.field x cn t' hx e1 hc⟩
theorem zj6(D:Doc)(W:List Int){b:Int}(h:b∈W):zU D W=1+(fsOf D b).length+zU D (W.erase b):=by
 have h1:=zfh D W h
 have h2:=List.length_erase_of_mem h
 have h3:=List.length_pos_of_mem h
 rw[zef,zef]
 omega
theorem zj5{P D:Doc}{R:Int->Int->Prop}(hone:OneOne R)(hth:∀ x y,R x y->∃ t u,P x=some t/\D y=some u/\ThIso R t u):∀ (V W:List Int),V.Nodup->W.Nodup->(∀ x∈V,∃ y∈W,R x y)->(∀ y∈W,∃ x∈V,R x y)->zU P V=zU D W
 | [],W,_,_,_,h2=>by
  cases W with
  | nil=>rfl
  | cons y W=>
   obtain⟨x,hx,_⟩:=h2 y (by simp)
   cases hx
 | x :: V,W,hn,hm,h1,h2=>by
  obtain⟨y,hy,hR⟩:=h1 x (by simp)
  have hn':=List.nodup_cons.1 hn
  obtain⟨t,u,e1,e2,hT⟩:=hth x y hR
  have hlen:(fsOf P x).length=(fsOf D y).length:=by
   unfold fsOf
   rw[e1,e2]
   exact hT.fs.len
  rw[zU,zj6 D W hy,hlen]
  congr 1
  refine zj5 hone hth V (W.erase y) hn'.2 (hm.erase y) (fun z hz=>?_) (fun z hz=>?_)
  ·obtain⟨y',hy',hR'⟩:=h1 z (by simp[hz])
   refine⟨y',(List.mem_erase_of_ne (fun e=>?_)).2 hy',hR'⟩
   subst e
   have:=hone.r z x y' hR' hR
   subst this
   exact hn'.1 hz
  ·have hne:z≠y:=fun e=>by
    subst e
    exact absurd hz (hm.not_mem_erase)
   obtain⟨x',hx',hR'⟩:=h2 z (List.mem_of_mem_erase hz)
   rcases List.mem_cons.1 hx' with rfl | hx'
   ·exact absurd (hone.l x' z y hR' hR) hne
   ·exact⟨x',hx',hR'⟩
theorem Iso.cells{P D:Doc}{R:Int->Int->Prop}{ps qs:List Cl}(h:Iso P D R ps qs){V W:List Int}(hV:V.Nodup)(hW:W.Nodup)(h1:∀ x,x∈V↔Reach P ps x)(h2:∀ y,y∈W↔Reach D qs y):zU P V=zU D W:=by
 refine zj5 h.one h.things V W hV hW (fun x hx=>?_) (fun y hy=>?_)
 ·obtain⟨y,hR,hy⟩:=h.reach ((h1 x).1 hx)
  exact⟨y,(h2 y).2 hy,hR⟩
 ·obtain⟨x,hR,hx⟩:=h.reach' ((h2 y).1 hy)
  exact⟨x,(h1 x).2 hx,hR⟩
theorem Iso.set{P D:Doc}{R:Int->Int->Prop}{ps qs:List Cl}(h:Iso P D R ps qs){x y:Int}(hR:R x y){t u:Th}(ht:P x=some t)(hu:D y=some u)(j:Nat){a b:Cl}(hab:zI R a b):Iso (upd P x (some ⟨t.kind,t.tag,t.fs.set j a⟩)) (upd D y (some ⟨u.kind,u.tag,u.fs.set j b⟩)) R ps qs:=by
 refine⟨h.one,h.roots,fun x' y' hR'=>?_⟩
 by_cases e:x'=x
 ·subst e
  have e':=h.one.l x' y' y hR' hR
  subst e'
  rw[zbf,zbf]
  obtain⟨t',u',e1,e2,hT⟩:=h.things x' y' hR'
  rw[ht] at e1
  rw[hu] at e2
  cases e1
  cases e2
  exact⟨_,_,rfl,rfl,hT.kind,hT.tag,hT.fs.set j hab⟩
 ·have e':y'≠y:=fun e'=>by
   subst e'
   exact e (h.one.r _ _ _ hR' hR)
  rw[zav _ _ e,zav _ _ e']
  exact h.things x' y' hR'
theorem Iso.made{P D:Doc}{R:Int->Int->Prop}{ps qs:List Cl}(h:Iso P D R ps qs){x y:Int}(hx:∀ z,¬ R x z)(hy:∀ z,¬ R z y)(kind tag:Int)(n:Nat) :
  Iso (upd P x (some ⟨kind,tag,List.replicate n default⟩)) (upd D y (some ⟨kind,tag,List.replicate n default⟩)) (fun a b=>R a b\/a=x/\b=y) (ps++[⟨true,x⟩]) (qs++[⟨true,y⟩]):=by
 have hone:OneOne (fun a b=>R a b\/a=x/\b=y):=by
  constructor
  ·rintro a b c (h1 | ⟨rfl,rfl⟩) (h2 | ⟨h2,h3⟩)
   ·exact h.one.l _ _ _ h1 h2
   ·subst h2;exact absurd h1 (hx _)
   ·exact absurd h2 (hx _)
   ·exact h3.symm
  ·rintro a b c (h1 | ⟨rfl,rfl⟩) (h2 | ⟨h2,h3⟩)
   ·exact h.one.r _ _ _ h1 h2
   ·subst h3;exact absurd h1 (hy _)
   ·exact absurd h2 (hy _)
   ·exact h2.symm
 refine⟨hone,zV.snoc (h.roots.mono (fun _ _ _ h=>Or.inl h)) ⟨rfl,fun _=>by simp_all,fun _=>Or.inr ⟨rfl,rfl⟩⟩,?_⟩
 rintro a b (hR | ⟨rfl,rfl⟩)
 ·have e1:a≠x:=fun e=>by subst e;exact hx _ hR
  have e2:b≠y:=fun e=>by subst e;exact hy _ hR
  rw[zav _ _ e1,zav _ _ e2]
  obtain⟨t,u,h1,h2,hT⟩:=h.things a b hR
  exact⟨t,u,h1,h2,hT.kind,hT.tag,hT.fs.mono (fun _ _ _ h=>Or.inl h)⟩
 ·rw[zbf,zbf]
  exact⟨_,_,rfl,rfl,rfl,rfl,zV.zeros _ n⟩
def mvC(f:Int->Int)(c:Cl):Cl:=if c.p=true then⟨true,f c.n⟩ else c
theorem zvz(f:Int->Int)(c:Cl):(mvC f c).p=c.p:=by
 unfold mvC
 split
 ·rename_i h
  exact h.symm
 ·rfl
theorem zx4{f:Int->Int}{c:Cl}(h:c.p=true):(mvC f c).n=f c.n:=by unfold mvC;rw[if_pos h]
theorem zv0{f:Int->Int}{c:Cl}(h:c.p=false):mvC f c=c:=by unfold mvC;rw[if_neg (by simp[h])]
structure Moved(P P':Doc)(ps:List Cl)(f:Int->Int):Prop where
 inj:∀ x y,Reach P ps x->Reach P ps y->f x=f y->x=y
 at_:∀ x t,Reach P ps x->P x=some t->P' (f x)=some ⟨t.kind,t.tag,t.fs.map (mvC f)⟩
theorem zI.moved{R:Int->Int->Prop}{a b:Cl}(h:zI R a b){f:Int->Int}{S:Int->Int->Prop}(hS:a.p=true->R a.n b.n->S (f a.n) b.n):zI S (mvC f a) b:=by
 refine⟨(zvz f a).trans h.1,fun e=>?_,fun e=>?_⟩
 ·rw[zvz] at e
  rw[zv0 e]
  exact h.2.1 e
 ·rw[zvz] at e
  rw[zx4 e]
  exact hS e (h.2.2 e)
theorem Iso.moved{P D:Doc}{R:Int->Int->Prop}{ps qs:List Cl}(h:Iso P D R ps qs){P':Doc}{f:Int->Int}(hm:Moved P P' ps f):Iso P' D (fun x' y=>∃ x,Reach P ps x/\R x y/\x'=f x) (ps.map (mvC f)) qs:=by
 refine⟨⟨?_,?_⟩,?_,?_⟩
 ·rintro a y z ⟨x,hx,hR,rfl⟩ ⟨x',hx',hR',e⟩
  have:=hm.inj x x' hx hx' e
  subst this
  exact h.one.l _ _ _ hR hR'
 ·rintro a b z ⟨x,hx,hR,rfl⟩ ⟨x',hx',hR',rfl⟩
  rw[h.one.r _ _ _ hR hR']
 ·refine⟨by simp[h.roots.len],fun i hi hk=>?_⟩
  have hi':i < ps.length:=by simpa using hi
  rw[List.getElem_map]
  refine(h.roots.at_ i hi' hk).moved (fun e hR=>⟨_,Reach.root _ ?_,hR,rfl⟩)
  have:=List.getElem_mem hi'
  rwa [show(ps[i]'hi')=⟨true,(ps[i]'hi').n⟩ from by rw[<-e]] at this
 ·rintro x' y ⟨x,hx,hR,rfl⟩
  obtain⟨t,u,h1,h2,hT⟩:=h.things x y hR
  refine⟨_,u,hm.at_ x t hx h1,h2,hT.kind,hT.tag,by simp[hT.fs.len],fun i hi hk=>?_⟩
  have hi':i < t.fs.length:=by simpa using hi
  simp only[List.getElem_map]
  refine(hT.fs.at_ i hi' hk).moved (fun e hR'=>⟨_,Reach.field x _ t hx h1 ?_,hR',rfl⟩)
  have:=List.getElem_mem hi'
  rwa [show(t.fs[i]'hi')=⟨true,(t.fs[i]'hi').n⟩ from by rw[<-e]] at this
structure Wd where
 n:Int
 moved:Int
 tag:Int
 kind:Int
 part:Int
def WdAt(w:World)(b o i:Nat)(x:Wd):Prop:=w.cell? ⟨b,o+i * 5,none⟩=some (.int .i64 x.n)/\w.cell? ⟨b,o+i * 5+1,none⟩=some (.int .i32 x.moved)/\w.cell? ⟨b,o+i * 5+2,none⟩=some (.int .u16 x.tag)/\w.cell? ⟨b,o+i * 5+3,none⟩=some (.int .u8 x.kind)/\w.cell? ⟨b,o+i * 5+4,none⟩=some (.int .u8 x.part)
structure RowW(w:World)(p:Option Addr)(l:List Wd):Prop where
 len:l.length<=1000000
 get:∀ i (hi:i < l.length),∃ b,p=some ⟨b,0,none⟩/\WdAt w b 0 i (l[i]'hi)
structure HpAt(w:World)(hb o:Nat)(cells first:Int)(p:Option Addr)(cap:Nat)(ws:List Wd):Prop where
 c0:w.cell? ⟨hb,o,none⟩=some (.int .i64 cells)
 c1:w.cell? ⟨hb,o+1,none⟩=some (.int .i64 first)
 c2:w.cell? ⟨hb,o+2,none⟩=some (.slice p ws.length cap)
 row:RowW w p ws
 pos:0 < first/\first<=9000000000000000000
 cap:ws.length<=cap
theorem WdAt.kp{w w':World}(hk:Kp [] w w'){b o i:Nat}{x:Wd}(h:WdAt w b o i x):WdAt w' b o i x:=⟨hk.cell h.1 (by simp),hk.cell h.2.1 (by simp),hk.cell h.2.2.1 (by simp),hk.cell h.2.2.2.1 (by simp),hk.cell h.2.2.2.2 (by simp)⟩
theorem HpAt.kp{w w':World}(hk:Kp [] w w'){hb o:Nat}{cells first:Int}{p:Option Addr}{cap:Nat}{ws:List Wd}(h:HpAt w hb o cells first p cap ws):HpAt w' hb o cells first p cap ws:=
 ⟨hk.cell h.c0 (by simp),hk.cell h.c1 (by simp),hk.cell h.c2 (by simp),⟨h.row.len,fun i hi=>by
  obtain⟨b,e,g⟩:=h.row.get i hi
  exact⟨b,e,g.kp hk⟩⟩,h.pos,h.cap⟩
theorem HpAt.cells{w:World}{hb o:Nat}{cells first:Int}{p:Option Addr}{cap:Nat}{ws:List Wd}(h:HpAt w hb o cells first p cap ws):w.cell? ⟨hb,o,none⟩=some (.int .i64 cells)/\w.cell? ⟨hb,o+1,none⟩=some (.int .i64 first)/\w.cell? ⟨hb,o+2,none⟩=some (.slice p ws.length cap)/\hb < w.heap.size:=
 ⟨h.c0,h.c1,h.c2,World.block_lt_of_cell? _ _ h.c0⟩
theorem zlm(w:World)(hb o:Nat)(cells first:Int)(p:Option Addr)(cap:Nat)(ws:List Wd)(h:HpAt w hb o cells first p cap ws) :
  Calls Tryz.prog 110 #[.pointer (some ⟨hb,o,none⟩)] w fun e w'=>e=.returned (.int .i64 (first+ws.length))/\Below w.heap.size w w':=by
 obtain⟨c0,c1,c2,c3⟩:=h.cells
 have hw:IntKind.i64.wrap (first+(ws.length:Nat))=first+ws.length:=by rw[IntKind.wrap_i64];have:=h.pos;have:=h.row.len;omega
 have Q:Hid (Below w.heap.size w w):=Below.refl _ _
 have Q2:Hid (∀ n,Below w.heap.size w (w.drewN n)):=fun n=>((Kp.refl [] w).drewN n).below (Nat.le_refl _) (by simp)
 clear h
 go_enter Tryz.func110,Tryz.ntmps110
 go_wp2_with fail
 go_quiet (fail)
 go_wp2
 exact bR (by simp[results,Tryz.results110,go_sem]) ⟨rfl,Q2.o _⟩
structure Hd(ws:List Wd)(j:Nat)(x:Wd):Prop where
 lt:j < ws.length
 get:ws[j]? = some x
 part:x.part=2
 n:0<=x.n
 fits:j+x.n.toNat+1<=ws.length
theorem zez(w:World)(hb o:Nat)(cells first:Int)(p:Option Addr)(cap:Nat)(ws:List Wd)(h:HpAt w hb o cells first p cap ws)(j:Nat)(x:Wd)(hx:Hd ws j x) :
  Calls Tryz.prog 98 #[.pointer (some ⟨hb,o,none⟩),.int .i64 (first+j)] w fun e w'=>(∃ b,p=some ⟨b,0,none⟩/\e=.returned (.slice (some ⟨b,j * 5,none⟩) (x.n.toNat+1) (cap - j)))/\Below w.heap.size w w':=by
 obtain⟨b,hp,hwd⟩:=h.row.get j hx.lt
 have he:ws[j]'hx.lt=x:=by have:=hx.get;rw[gE hx.lt] at this;exact Option.some.inj this
 rw[he] at hwd
 subst hp
 have hl:=hx.lt
 have hc:=h.cap
 have hf:=hx.fits
 have hpos:=h.pos
 have hlen:=h.row.len
 have h1:(first+(j:Nat) < first)=False:=by simp;omega
 have h2:(first+(ws.length:Nat)<=first+(j:Nat))=False:=by simp;omega
 have h3:IntKind.i64.wrap (first+(j:Nat) - first)=(j:Nat):=by rw[IntKind.wrap_i64];omega
 have Hall:Hid (∀ wx,Kp [] w wx->(wx.cell? ⟨hb,o,none⟩=some (.int .i64 cells)/\wx.cell? ⟨hb,o+1,none⟩=some (.int .i64 first)/\wx.cell? ⟨hb,o+2,none⟩=some (.slice (some ⟨b,0,none⟩) ws.length cap)/\hb < wx.heap.size)/\WdAt wx b 0 j x/\b < wx.heap.size):=fun wx hk=>by
  have hk2:=hwd.kp hk
  exact⟨(h.kp hk).cells,hk2,World.block_lt_of_cell? _ _ hk2.1⟩
 have Hend:Hid (∀ wx,Kp [] w wx->Calls Tryz.prog 110 #[.pointer (some ⟨hb,o,none⟩)] wx fun e w'=>e=.returned (.int .i64 (first+ws.length))/\Kp [] w w'):=fun wx hk=>cM (zlm wx hb o cells first _ cap ws (h.kp hk)) (fun e w' g=>⟨g.1,hk.trans (Kp.zB g.2)⟩)
 clear h hwd he
 go_enter Tryz.func98,Tryz.ntmps98
 obtain⟨⟨e0,e1,e2,e3⟩,_⟩:=Hall.o w (Kp.refl _ _)
 go_wp2_with fail
 refine cM (Hend.o _ (Kp.refl _ _)) ?_
 rintro e w2 ⟨rfl,hk2⟩
 have Hk2:=zh hk2
 clear hk2 e0 e1 e2 e3
 obtain⟨⟨e0,e1,e2,e3⟩,⟨g0,g1,g2,g3,g4⟩,g5⟩:=Hall.o w2 Hk2.o
 go_wp2_with fail
 simp only[Nat.zero_add] at g0 g1 g2 g3 g4
 obtain⟨xn,xm,xt,xk,xp⟩:=x
 have hp2:=hx.part
 have hn0:=hx.n
 simp only at hp2 hn0 g0 g1 g2 g3 g4 hf
 obtain⟨m,rfl⟩:∃ m:Nat,xn=m:=⟨xn.toNat,by omega⟩
 subst hp2
 have hlj:(0:Int) < ((ws.length - j:Nat):Int):=by omega
 have hwm:IntKind.i64.wrap ((m:Int)+1)=((m+1:Nat):Int):=by rw[IntKind.wrap_i64];simp at hf;omega
 have hm1:m+1<=cap - j:=by simp at hf;omega
 have Q:Hid (∀ n,Below w.heap.size w (w2.drewN n)):=fun n=>(Hk2.o.trans ((Kp.refl [] w2).drewN n)).below (Nat.le_refl _) (by simp)
 clear hx hn0 hf
 go_quiet (fail)
 go_wp2
 exact bR (by simp[results,Tryz.results98,go_sem]) ⟨rfl,Q.o _⟩
def Wd.val(x:Wd):Value:=.agg #[.int .i64 x.n,.int .i32 x.moved,.int .u16 x.tag,.int .u8 x.kind,.int .u8 x.part]
theorem set5{w:World}{b:Nat}{a0 a1 a2 a3 a4:Value}(h:w.heap[b]? = some (.cells #[a0,a1,a2,a3,a4] 186))(v0 v1 v2 v3 v4:Value):(((((w.setCell ⟨b,0,none⟩ v0).setCell ⟨b,1,none⟩ v1).setCell ⟨b,2,none⟩ v2).setCell ⟨b,3,none⟩ v3).setCell ⟨b,4,none⟩ v4).heap[b]? = some (.cells #[v0,v1,v2,v3,v4] 186):=by
 simp[World.setCell,Array.getElem?_modify,h]
theorem zij(w:World)(hb o:Nat)(cells first:Int)(p:Option Addr)(cap:Nat)(ws:List Wd)(h:HpAt w hb o cells first p cap ws)(j:Nat)(x:Wd)(hx:Hd ws j x) :
  Calls Tryz.prog 97 #[.pointer (some ⟨hb,o,none⟩),.int .i64 (first+j)] w fun e w'=>e=.returned x.val/\Below w.heap.size w w':=by
 have hk1:Kp [] w (w.alloc (.cells #[.int .i64 0,.int .i32 0,.int .u16 0,.int .u8 0,.int .u8 0] 186)):=Kp.alloc _ _ _
 have Hk1:=zh hk1
 have hg1:=zab w (.cells #[.int .i64 0,.int .i32 0,.int .u16 0,.int .u8 0,.int .u8 0] 186)
 have Hg1:=zh hg1
 have Hcall:Hid _:=zez _ hb o cells first p cap ws (h.kp hk1) j x hx
 have Hrow:Hid (∀ wx,Kp [] w wx->∀ b,p=some ⟨b,0,none⟩->WdAt wx b 0 j x/\b < wx.heap.size):=fun wx hk b hp=>by
  obtain⟨b',e,g⟩:=h.row.get j hx.lt
  rw[hp] at e
  cases e
  have he:ws[j]'hx.lt=x:=by have:=hx.get;rw[gE hx.lt] at this;exact Option.some.inj this
  rw[he] at g
  exact⟨g.kp hk,World.block_lt_of_cell? _ _ (g.kp hk).1⟩
 clear h hk1 hg1 hx
 go_enter Tryz.func97,Tryz.ntmps97
 go_wp2_with fail
 generalize w.alloc _=w1 at *
 refine cM Hcall.o ?_
 rintro e w2 ⟨⟨b,hp,rfl⟩,hb2⟩
 obtain⟨⟨g0,g1,g2,g3,g4⟩,g5⟩:=Hrow.o w2 (Hk1.o.trans (Kp.zB hb2)) b hp
 simp only[Nat.zero_add] at g0 g1 g2 g3 g4
 have hbx:=(hb2.block _ (sz Hg1.o)).trans Hg1.o
 have hlt:=(sz hbx)
 have hfz:∀ i,w2.frozen? ⟨w.heap.size,i,none⟩=false:=fun i=>by simp[World.frozen?,hbx]
 have hc0:w2.cell? ⟨w.heap.size,0,none⟩=some (.int .i64 0):=by simp[World.cell?,hbx]
 have hc1:w2.cell? ⟨w.heap.size,1,none⟩=some (.int .i32 0):=by simp[World.cell?,hbx]
 have hc2:w2.cell? ⟨w.heap.size,2,none⟩=some (.int .u16 0):=by simp[World.cell?,hbx]
 have hc3:w2.cell? ⟨w.heap.size,3,none⟩=some (.int .u8 0):=by simp[World.cell?,hbx]
 have hc4:w2.cell? ⟨w.heap.size,4,none⟩=some (.int .u8 0):=by simp[World.cell?,hbx]
 have hf0:=hfz 0
 have hf1:=hfz 1
 have hf2:=hfz 2
 have hf3:=hfz 3
 have hf4:=hfz 4
 have hs:=set5 hbx (.int .i64 x.n) (.int .i32 x.moved) (.int .u16 x.tag) (.int .u8 x.kind) (.int .u8 x.part)
 have hkk:Kp [w.heap.size] w2 (((((w2.setCell ⟨w.heap.size,0,none⟩ (.int .i64 x.n)).setCell ⟨w.heap.size,1,none⟩ (.int .i32 x.moved)).setCell ⟨w.heap.size,2,none⟩ (.int .u16 x.tag)).setCell ⟨w.heap.size,3,none⟩ (.int .u8 x.kind)).setCell ⟨w.heap.size,4,none⟩ (.int .u8 x.part)):=((((Kp.setCell _ ⟨w.heap.size,0,none⟩ (by simp) _).trans (Kp.setCell _ ⟨w.heap.size,1,none⟩ (by simp) _)).trans (Kp.setCell _ ⟨w.heap.size,2,none⟩ (by simp) _)).trans (Kp.setCell _ ⟨w.heap.size,3,none⟩ (by simp) _)).trans (Kp.setCell _ ⟨w.heap.size,4,none⟩ (by simp) _)
 have Q:Hid _:=((Hk1.o.trans (Kp.zB hb2)).then hkk (by simp)).below (Nat.le_refl _) (by simp)
 have Hs:=zh hs
 clear hfz hbx hkk hs
 go_wp2_with fail
 generalize ((((w2.setCell _ _).setCell _ _).setCell _ _).setCell _ _).setCell _ _=w3 at *
 have z0:w3.cell? ⟨w.heap.size,0,none⟩=some (.int .i64 x.n):=by simp[World.cell?,Hs.o]
 have z1:w3.cell? ⟨w.heap.size,1,none⟩=some (.int .i32 x.moved):=by simp[World.cell?,Hs.o]
 have z2:w3.cell? ⟨w.heap.size,2,none⟩=some (.int .u16 x.tag):=by simp[World.cell?,Hs.o]
 have z3:w3.cell? ⟨w.heap.size,3,none⟩=some (.int .u8 x.kind):=by simp[World.cell?,Hs.o]
 have z4:w3.cell? ⟨w.heap.size,4,none⟩=some (.int .u8 x.part):=by simp[World.cell?,Hs.o]
 exact bodyPost_ret (v:=x.val) (by simp[results,Tryz.results97,go_sem,z0,z1,z2,z3,z4,Wd.val]) rfl ⟨rfl,Q.o⟩
theorem zq7(a b c d e:Int)(w:World):(Instr.field 186 (.agg #[.int .i64 a,.int .i32 b,.int .u16 c,.int .u8 d,.int .u8 e]) 3).run Tryz.prog w=.ok (.int .u8 d) w:=by kernel_rfl
theorem zq8(a b c d e:Int)(w:World):(Instr.field 186 (.agg #[.int .i64 a,.int .i32 b,.int .u16 c,.int .u8 d,.int .u8 e]) 2).run Tryz.prog w=.ok (.int .u16 c) w:=by kernel_rfl
theorem zq9(a b c d e:Int)(w:World):(Instr.field 186 (.agg #[.int .i64 a,.int .i32 b,.int .u16 c,.int .u8 d,.int .u8 e]) 0).run Tryz.prog w=.ok (.int .i64 a) w:=by kernel_rfl
theorem zth(w:World)(hb o:Nat)(cells first:Int)(p:Option Addr)(cap:Nat)(ws:List Wd)(h:HpAt w hb o cells first p cap ws)(j:Nat)(x:Wd)(hx:Hd ws j x)(hr:0<=x.kind/\x.kind < 256) :
  Calls Tryz.prog 96 #[.pointer (some ⟨hb,o,none⟩),.int .i64 (first+j)] w fun e w'=>e=.returned (.int .i64 x.kind)/\Below w.heap.size w w':=by
 have hw:IntKind.i64.wrap x.kind=x.kind:=by rw[IntKind.wrap_i64];omega
 have Hcall:=zij w hb o cells first p cap ws h j x hx
 unfold Wd.val at Hcall
 have Hcall:=zh Hcall
 clear h hx
 have hfl:=zq7
 go_enter Tryz.func96,Tryz.ntmps96
 go_wp2_with fail
 refine cM Hcall.o ?_
 rintro e w2 ⟨rfl,hb2⟩
 have Q:=zh hb2
 clear hb2
 go_wp2
 exact bR (by simp[results,Tryz.results96,go_sem]) ⟨rfl,Q.o⟩
theorem zvb(w:World)(hb o:Nat)(cells first:Int)(p:Option Addr)(cap:Nat)(ws:List Wd)(h:HpAt w hb o cells first p cap ws)(j:Nat)(x:Wd)(hx:Hd ws j x)(hr:0<=x.tag/\x.tag < 65536) :
  Calls Tryz.prog 78 #[.pointer (some ⟨hb,o,none⟩),.int .i64 (first+j)] w fun e w'=>e=.returned (.int .i64 x.tag)/\Below w.heap.size w w':=by
 have hw:IntKind.i64.wrap x.tag=x.tag:=by rw[IntKind.wrap_i64];omega
 have Hcall:=zij w hb o cells first p cap ws h j x hx
 unfold Wd.val at Hcall
 have Hcall:=zh Hcall
 clear h hx
 have hfl:=zq8
 go_enter Tryz.func78,Tryz.ntmps78
 go_wp2_with fail
 refine cM Hcall.o ?_
 rintro e w2 ⟨rfl,hb2⟩
 have Q:=zh hb2
 clear hb2
 go_wp2
 exact bR (by simp[results,Tryz.results78,go_sem]) ⟨rfl,Q.o⟩
theorem zv4(w:World)(hb o:Nat)(cells first:Int)(p:Option Addr)(cap:Nat)(ws:List Wd)(h:HpAt w hb o cells first p cap ws)(j:Nat)(x:Wd)(hx:Hd ws j x) :
  Calls Tryz.prog 76 #[.pointer (some ⟨hb,o,none⟩),.int .i64 (first+j)] w fun e w'=>e=.returned (.int .i64 x.n)/\Below w.heap.size w w':=by
 have Hcall:=zij w hb o cells first p cap ws h j x hx
 unfold Wd.val at Hcall
 have Hcall:=zh Hcall
 clear h hx
 have hfl:=zq9
 go_enter Tryz.func76,Tryz.ntmps76
 go_wp2_with fail
 refine cM Hcall.o ?_
 rintro e w2 ⟨rfl,hb2⟩
 have Q:=zh hb2
 clear hb2
 go_wp2
 exact bR (by simp[results,Tryz.results76,go_sem]) ⟨rfl,Q.o⟩
end Go.Proofs.YtkcmachfagcnaaaGreatDoor
namespace Go.Proofs.YtkcmachfagcnaaaGreatDoor
open Go.RowKit Go.Deep Go.IntWalk
theorem zhw(w:World)(hb o:Nat)(cells first:Int)(p:Option Addr)(cap:Nat)(ws:List Wd)(h:HpAt w hb o cells first p cap ws)(j:Nat)(x:Wd)(hx:Hd ws j x)(i:Nat)(hi:(i:Int) < x.n) :
  Calls Tryz.prog 77 #[.pointer (some ⟨hb,o,none⟩),.int .i64 (first+j),.int .i64 i] w fun e w'=>(∃ b,p=some ⟨b,0,none⟩/\e=.returned (.pointer (some ⟨b,j * 5+(i+1) * 5,none⟩)))/\Below w.heap.size w w':=by
 have Hcall:Hid _:=zez w hb o cells first p cap ws h j x hx
 have hlen:=h.row.len
 have hf:=hx.fits
 have hn:=hx.n
 obtain⟨xn,xm,xt,xk,xp⟩:=x
 simp only at hi hf hn
 obtain⟨m,rfl⟩:∃ m:Nat,xn=m:=⟨xn.toNat,by omega⟩
 simp only[Int.toNat_natCast] at hf
 have h0:¬ ((i:Int) < 0):=by omega
 have h1:wrap64 (m:Int)=m:=wrap64_in _ (by omega)
 have h5:wrap64 ((i:Int)+1)=(i:Int)+1:=wrap64_in _ (by omega)
 have h2:¬ ((m:Int)<=(i:Int)):=by omega
 have h3:IntKind.i64.wrap ((i:Int)+1)=((i+1:Nat):Int):=by rw[IntKind.wrap_i64];omega
 have h4:(((i+1:Nat):Int) < ((m+1:Nat):Int)):=by omega
 clear h hx hlen hf hn
 go_enter Tryz.func77,Tryz.ntmps77
 go_wp2_with fail
 refine cM Hcall.o ?_
 rintro e w2 ⟨⟨b,hp,rfl⟩,hb2⟩
 simp only[Int.toNat_natCast]
 have Q:=zh hb2
 clear hb2
 go_wp2
 exact bR (by simp[results,Tryz.results77,go_sem]) ⟨⟨b,hp,rfl⟩,Q.o⟩
theorem set2{w:World}{b:Nat}{a0 a1:Value}{ty:TypeId}(h:w.heap[b]? = some (.cells #[a0,a1] ty))(v0 v1:Value):((w.setCell ⟨b,0,none⟩ v0).setCell ⟨b,1,none⟩ v1).heap[b]? = some (.cells #[v0,v1] ty):=by
 simp[World.setCell,Array.getElem?_modify,h]
def Wd.cl(x:Wd):Cl:=⟨x.part == 1,x.n⟩
theorem RowW.at_{w:World}{p:Option Addr}{l:List Wd}(h:RowW w p l){k:Nat}{y:Wd}(hk:l[k]? = some y):∃ b,p=some ⟨b,0,none⟩/\WdAt w b 0 k y/\b < w.heap.size:=by
 obtain⟨hl,e⟩:=List.getElem?_eq_some_iff.1 hk
 obtain⟨b,hp,hw⟩:=h.get k hl
 rw[e] at hw
 exact⟨b,hp,hw,World.block_lt_of_cell? _ _ hw.1⟩
theorem zwb(w:World)(hb o:Nat)(cells first:Int)(p:Option Addr)(cap:Nat)(ws:List Wd)(h:HpAt w hb o cells first p cap ws)(j:Nat)(x:Wd)(hx:Hd ws j x)(i:Nat)(hi:(i:Int) < x.n)(y:Wd)(hy:ws[j+1+i]? = some y) :
  Calls Tryz.prog 82 #[.pointer (some ⟨hb,o,none⟩),.int .i64 (first+j),.int .i64 i] w fun e w'=>e=.returned y.cl.val/\Below w.heap.size w w':=by
 obtain⟨b,hp,hwd,hbl⟩:=h.row.at_ hy
 subst hp
 have hk1:Kp [] w (w.alloc (.cells #[.bool false,.int .i64 0] 67)):=Kp.alloc _ _ _
 have hg1:=zab w (.cells #[.bool false,.int .i64 0] 67)
 have Hk1:Hid (Kp [] w _):=hk1
 have Hg1:Hid (_=some (Obj.cells _ _)):=hg1
 have Hcall:Hid _:=zhw _ hb o cells first _ cap ws (h.kp hk1) j x hx i hi
 have Hw:Hid (∀ wx,Kp [] w wx->WdAt wx b 0 (j+1+i) y/\b < wx.heap.size):=fun wx hk=>⟨hwd.kp hk,lL hbl hk.size⟩
 clear h hx hwd hbl hk1 hg1 hy
 go_enter Tryz.func82,Tryz.ntmps82
 go_wp2_with fail
 generalize w.alloc (.cells #[.bool false,.int .i64 0] 67)=w1 at *
 refine cM Hcall.o ?_
 rintro e w2 ⟨⟨b',hp,rfl⟩,hb2⟩
 cases hp
 have hlt1:=(Array.getElem?_eq_some_iff.1 Hg1.o).1
 have Hal:Hid (∀ wx,Kp [w.heap.size] w2 wx->(wx.cell? ⟨b,j * 5+(i+1) * 5,none⟩=some (.int .i64 y.n)/\wx.cell? ⟨b,j * 5+(i+1) * 5+4,none⟩=some (.int .u8 y.part)/\b < wx.heap.size)):=fun wx hk=>by
  obtain⟨⟨g0,g1,g2,g3,g4⟩,g5⟩:=Hw.o w2 (Hk1.o.trans (Kp.zB hb2))
  have hne:b≠w.heap.size:=by have:=(Hw.o w (Kp.refl _ _)).2;omega
  simp only[Nat.zero_add] at g0 g4
  rw[show(j+1+i) * 5=j * 5+(i+1) * 5 by omega] at g0 g4
  exact⟨hk.cell g0 (by simpa using hne),hk.cell g4 (by simpa using hne),lL g5 hk.size⟩
 have hbx:=(hb2.block _ hlt1).trans Hg1.o
 have Hbx:=zh hbx
 have Q0:Hid _:=(Hk1.o.trans (Kp.zB hb2)).below (Nat.le_refl _) (by simp)
 clear Hcall Hw hbx hlt1 hb2 Hg1
 obtain⟨yn,ym,yt,yk,yp⟩:=y
 simp only at *
 go_wp2_with fail
 have hbd:w2.drew.heap[w.heap.size]? = some (.cells #[.bool false,.int .i64 0] 67):=Hbx.o
 obtain⟨e0,e1,e2⟩:=Hal.o w2.drew ((Kp.refl _ _).drew)
 have hlt:=(Array.getElem?_eq_some_iff.1 hbd).1
 have hc0:w2.drew.cell? ⟨w.heap.size,0,none⟩=some (.bool false):=by simp only[World.cell?,hbd];rfl
 have hc1:w2.drew.cell? ⟨w.heap.size,1,none⟩=some (.int .i64 0):=by simp only[World.cell?,hbd];rfl
 have hf0:w2.drew.frozen? ⟨w.heap.size,0,none⟩=false:=by simp only[World.frozen?,hbd];rfl
 have hf1:w2.drew.frozen? ⟨w.heap.size,1,none⟩=false:=by simp only[World.frozen?,hbd];rfl
 have hd0:w2.cell? ⟨w.heap.size,0,none⟩=some (.bool false):=hc0
 have hd1:w2.cell? ⟨w.heap.size,1,none⟩=some (.int .i64 0):=hc1
 have hg0:w2.frozen? ⟨w.heap.size,0,none⟩=false:=hf0
 have hg1:w2.frozen? ⟨w.heap.size,1,none⟩=false:=hf1
 have Hs:Hid (((w2.setCell ⟨w.heap.size,0,none⟩ (.bool (yp == 1))).setCell ⟨w.heap.size,1,none⟩ (.int .i64 yn)).drew.heap[w.heap.size]? = some (.cells #[.bool (yp == 1),.int .i64 yn] 67)):=set2 hbd (.bool (yp == 1)) (.int .i64 yn)
 have Q:Hid (Below w.heap.size w ((w2.setCell ⟨w.heap.size,0,none⟩ (.bool (yp == 1))).setCell ⟨w.heap.size,1,none⟩ (.int .i64 yn)).drew):=(((Kp.zB (X:=[]) Q0.o.drew).then (Kp.setCell (X:=[w.heap.size]) _ ⟨w.heap.size,0,none⟩ (by simp) _) (by simp)).then (Kp.setCell (X:=[w.heap.size]) _ ⟨w.heap.size,1,none⟩ (by simp) _) (by simp)).below (Nat.le_refl _) (by simp)
 clear Hal Hbx hbd Q0
 go_region
 generalize ((w2.setCell ⟨w.heap.size,0,none⟩ (.bool (yp == 1))).setCell ⟨w.heap.size,1,none⟩ (.int .i64 yn)).drew=w3 at *
 have z0:w3.cell? ⟨w.heap.size,0,none⟩=some (.bool (yp == 1)):=by simp[World.cell?,Hs.o]
 have z1:w3.cell? ⟨w.heap.size,1,none⟩=some (.int .i64 yn):=by simp[World.cell?,Hs.o]
 go_wp2
 exact bodyPost_ret (v:=Cl.val ⟨yp == 1,yn⟩) (by simp[results,Tryz.results82,go_sem,z0,z1,Cl.val]) rfl ⟨rfl,Q.o⟩
end Go.Proofs.YtkcmachfagcnaaaGreatDoor
