/- Part of Greater. -/
import Derived.Test.YtkcmachfagcnaaaGreatDoorB43
import Derived.Test.YtkcmachfagcnaaaGreatDoorB10
set_option maxHeartbeats 8000000
set_option maxRecDepth 100000
namespace Go.Proofs.YtkcmachfagcnaaaGreatDoor
open Go.RowKit Go.Deep Go.IntWalk
open C12 (zX zF Cd Fn In zT)
section
variable{X:Fx}{w:World}{g:Pg}{m:AM}{R:Int->Int->Prop}
theorem J.outStr(h:J X w g m R):(convert 62 9 g.vo).run Tryz.prog w=.ok (.string ⟨m.out.toArray⟩) w:=by
 have ho:=h.oo
 unfold OwnB at ho
 exact C12.zgo (l:=m.out) ho
theorem zsg(h:J X w g m R):Calls Tryz.prog 9 #[.pointer (some ⟨X.mm,0,none⟩)] w fun e w'=>e=.returned (.agg #[.int .i64 m.kind,.string m.name,.string ⟨m.out.toArray⟩,.int .i64 (m.steps:Nat)])/\Kp [] w w':=by
 obtain⟨q,cap,hvo,-⟩:=zah h.oo
 have HF:Hid (∀ wx,Kp [] w wx->wx.cell? ⟨X.mm,34,none⟩=some (.int .i64 m.kind)/\wx.cell? ⟨X.mm,35,none⟩=some (.string m.name)/\wx.cell? ⟨X.mm,36,none⟩=some (.slice q m.out.length cap)/\wx.cell? ⟨X.mm,37,none⟩=some (.int .i64 (m.steps:Nat))/\X.mm < wx.heap.size):=fun wx hx=>by
  have e:=(h.kp hx).box.tell
  refine⟨e.1,e.2.1,?_,e.2.2.2.1,e.2.2.2.2⟩
  rw[<-hvo]
  exact e.2.2.1
 have HC:Hid (∀ wx,Kp [] w wx->(convert 62 9 (.slice q m.out.length cap)).run Tryz.prog wx=.ok (.string ⟨m.out.toArray⟩) wx):=fun wx hx=>by
  rw[<-hvo]
  exact(h.kp hx).outStr
 clear h hvo
 generalize m.kind=kd at *
 generalize m.name=nm at *
 generalize ByteArray.mk m.out.toArray=ou at *
 generalize ((m.steps:Nat):Int)=st at *
 generalize m.out.length=ol at *
 have Hk1:Hid (Kp [] w (w.alloc (.cells #[.int .i64 0,.string ⟨#[]⟩,.string ⟨#[]⟩,.int .i64 0] 27))):=kA
 have Hb1:Hid ((w.alloc (.cells #[.int .i64 0,.string ⟨#[]⟩,.string ⟨#[]⟩,.int .i64 0] 27)).heap[w.heap.size]? = some (.cells #[.int .i64 0,.string ⟨#[]⟩,.string ⟨#[]⟩,.int .i64 0] 27)):=zab w _
 go_enter Tryz.func9,Tryz.ntmps9
 go_upto_region 3 with fail
 refine zao (C:=fun wx=>Kp [] w wx) (by kernel_rfl) ?_
 refine qA 0 rfl ?_
 apply xI
 (intro wx hwx;go_simp <;> rfl)
 refine qA 1 rfl ?_
 apply xI
 (intro wx hwx;go_simp <;> rfl)
 refine qA 2 rfl ?_
 apply xI
 (intro wx hwx;go_simp <;> rfl)
 refine qA 3 rfl ?_
 apply xI
 (intro wx hwx;obtain⟨x0,x1,x2,x3,x4⟩:=HF.o wx hwx;go_simp <;> rfl)
 refine qA 4 rfl ?_
 apply xI
 (intro wx hwx;go_simp <;> rfl)
 refine qA 5 rfl ?_
 apply xI
 (intro wx hwx;go_simp <;> rfl)
 refine qA 6 rfl ?_
 apply xI
 (intro wx hwx;go_simp <;> rfl)
 refine qA 7 rfl ?_
 apply xI
 (intro wx hwx;obtain⟨x0,x1,x2,x3,x4⟩:=HF.o wx hwx;go_simp <;> rfl)
 refine qA 8 rfl ?_
 apply xI
 (intro wx hwx;go_simp <;> rfl)
 refine qA 9 rfl ?_
 apply xI
 (intro wx hwx;go_simp <;> rfl)
 refine qA 10 rfl ?_
 apply xI
 (intro wx hwx;go_simp <;> rfl)
 refine qA 11 rfl ?_
 apply xI
 (intro wx hwx;obtain⟨x0,x1,x2,x3,x4⟩:=HF.o wx hwx;go_simp <;> rfl)
 refine qA 12 rfl ?_
 apply xI
 (intro wx hwx;have hcv:=HC.o wx hwx;go_simp <;> rfl)
 refine qA 13 rfl ?_
 apply xI
 (intro wx hwx;go_simp <;> rfl)
 refine qA 14 rfl ?_
 apply xI
 (intro wx hwx;go_simp <;> rfl)
 refine qA 15 rfl ?_
 apply xI
 (intro wx hwx;go_simp <;> rfl)
 refine qA 16 rfl ?_
 apply xI
 (intro wx hwx;obtain⟨x0,x1,x2,x3,x4⟩:=HF.o wx hwx;go_simp <;> rfl)
 refine qA 17 rfl ?_
 apply xI
 (intro wx hwx;go_simp <;> rfl)
 refine oA 18 Hk1.o.drew rfl (fun K hK=>?_)
 go_simp
 refine hK _ _ ?_
 clear hK K
 have Hk2:Hid (Kp [] w (w.alloc (.cells #[.int .i64 kd,.string nm,.string ou,.int .i64 st] 27)).drew):=kA.drew
 have Hb2:Hid ((w.alloc (.cells #[.int .i64 kd,.string nm,.string ou,.int .i64 st] 27)).drew.heap[w.heap.size]? = some (.cells #[.int .i64 kd,.string nm,.string ou,.int .i64 st] 27)):=zab w _
 refine zag Hk2.o (by kernel_rfl) ?_
 go_simp
 generalize (w.alloc _).drew=w2 at *
 have r0:w2.cell? ⟨w.heap.size,0,none⟩=some (.int .i64 kd):=by simp[World.cell?,Hb2.o]
 have r1:w2.cell? ⟨w.heap.size,1,none⟩=some (.string nm):=by simp[World.cell?,Hb2.o]
 have r2:w2.cell? ⟨w.heap.size,2,none⟩=some (.string ou):=by simp[World.cell?,Hb2.o]
 have r3:w2.cell? ⟨w.heap.size,3,none⟩=some (.int .i64 st):=by simp[World.cell?,Hb2.o]
 have r4:=(sz Hb2.o)
 go_wp2_with fail
 exact bodyPost_ret (v:=.agg #[.int .i64 kd,.string nm,.string ou,.int .i64 st]) (by simp[results,Tryz.results9,go_sem,r0,r1,r2,r3]) rfl ⟨rfl,Hk2.o⟩
end
end Go.Proofs.YtkcmachfagcnaaaGreatDoor
namespace Go.Proofs.YtkcmachfagcnaaaGreatDoor
open Go.RowKit Go.Deep
open C12 (Cd In zT putsP nextP jumpP mayP flowJ flowP zFF toldP zbt LOk isAt)
def snAt(L:List C12.Sn)(j:Nat):C12.Sn:=(L[j]?).getD default
theorem zfn{L:List C12.Sn}{k:Nat}{s:C12.Sn}{i:Int}{j:Nat}(h:(snAt L j).is=true):snAt (toldP L k s i).2 j=snAt L j:=by
 unfold toldP
 split
 ·rfl
 ·rename_i hk
  by_cases e:j=k
  ·subst e
   exact absurd h hk
  ·unfold snAt
   simp only
   rw[List.getElem?_set_ne (by omega)]
theorem zhn{L:List C12.Sn}{k:Nat}{s:C12.Sn}{i:Int}(hk:k < L.length)(h:(toldP L k s i).1=true):snAt (toldP L k s i).2 k=s:=by
 unfold toldP at h ⊢
 split
 ·rename_i h1
  rw[if_pos h1] at h
  exact of_decide_eq_true h
 ·unfold snAt
  simp only
  rw[List.getElem?_set_self hk]
  rfl
theorem zdx{fs:List C12.Fn}{x:In}{i:Nat}{L:List C12.Sn}{j:Nat}(h:(snAt L j).is=true):snAt (flowJ fs x i L).2 j=snAt L j:=by
 unfold flowJ
 split
 ·split
  ·exact zfn h
  ·rfl
 ·rfl
theorem zfw{fs:List C12.Fn}{x:In}{i:Nat}{L:List C12.Sn}{j:Nat}(h:(snAt L j).is=true):snAt (flowP fs x i L).2 j=snAt L j:=by
 unfold flowP
 split
 ·split
  ·exact zdx h
  ·rw[zfn (by rw[zdx h];exact h),zdx h]
 ·exact zdx h
structure KnowsAt(fs:List C12.Fn)(L:List C12.Sn)(j:Nat)(x:In):Prop where
 is:(snAt L j).is=true
 may:mayP fs x (snAt L j)=true
 jump:x.op=18\/x.op=19\/x.op=20->snAt L x.a.toNat=jumpP fs x (snAt L j)
 next:¬ (x.op=18\/x.op=17\/x.op=16\/x.op=22)->snAt L (j+1)=nextP fs x (snAt L j)
theorem KnowsAt.more{fs:List C12.Fn}{L L':List C12.Sn}{j:Nat}{x:In}(h:KnowsAt fs L j x)(hL:∀ i,(snAt L i).is=true->snAt L' i=snAt L i):KnowsAt fs L' j x:=by
 have h0:=hL j h.is
 refine⟨by rw[h0];exact h.is,by rw[h0];exact h.may,fun e=>?_,fun e=>?_⟩
 ·have:=h.jump e
  rw[hL _ (by rw[this];rfl),h0]
  exact this
 ·have:=h.next e
  rw[hL _ (by rw[this];rfl),h0]
  exact this
theorem zod{fs:List C12.Fn}{x:In}{i:Nat}{L:List C12.Sn}(h:(flowP fs x i L).1=true)(hi:i+1 < L.length)(ha:x.op=18\/x.op=19\/x.op=20->x.a.toNat < L.length):KnowsAt fs (flowP fs x i L).2 i x:=by
 have hJ:(flowJ fs x i L).1=true:=by
  unfold flowP at h
  split at h
  ·assumption
  ·cases h
 have hmay:mayP fs x (snAt L i)=true:=by
  unfold flowJ at hJ
  split at hJ
  ·assumption
  ·cases hJ
 have his:(snAt L i).is=true:=by
  unfold mayP at hmay
  simp only[Bool.and_eq_true] at hmay
  exact hmay.1
 have hk:=zfw (fs:=fs) (x:=x) (i:=i) his
 have hlJ:(flowJ fs x i L).2.length=L.length:=C12.zff _ _ _ _
 refine⟨by rw[hk];exact his,by rw[hk];exact hmay,fun e=>?_,fun e=>?_⟩
 ·rw[hk]
  have e1:flowJ fs x i L=toldP L x.a.toNat (jumpP fs x (snAt L i)) i:=by
   unfold flowJ
   rw[if_pos (show mayP fs x ((L[i]?).getD default)=true from hmay),if_pos e]
   rfl
  have h2:snAt (flowJ fs x i L).2 x.a.toNat=jumpP fs x (snAt L i):=by
   rw[e1] at hJ ⊢
   exact zhn (ha e) hJ
  unfold flowP
  rw[if_pos hJ]
  split
  ·exact h2
  ·rw[zfn (by rw[h2];rfl)]
   exact h2
 ·rw[hk]
  unfold flowP at h ⊢
  rw[if_pos hJ] at h ⊢
  have e2:=e
  rw[if_neg e2] at h ⊢
  exact zhn (by rw[hlJ];exact hi) h
theorem zer{fs:List C12.Fn}{n:Nat} : ∀ (l:List In) (i:Nat) (L:List C12.Sn),L.length=n+1->i+l.length=n->LOk L i->(∀ x∈l,x.op=18\/x.op=19\/x.op=20->x.a.toNat < n)->(zFF fs l i L).1=0->
  ∃ L',L'.length=n+1/\LOk L' n/\(∀ j,(snAt L j).is=true->snAt L' j=snAt L j)/\(snAt L' n).is=false/\∀ p (hp:p < l.length),KnowsAt fs L' (i+p) (l[p]'hp)
 | [],i,L,hl,hn,hok,_,h=>by
  simp only[List.length_nil,Nat.add_zero] at hn
  subst hn
  unfold zFF at h
  split at h
  ·cases h
  ·rename_i h1
   exact⟨L,hl,hok,fun _ _=>rfl,by simpa [snAt] using h1,fun p hp=>by cases hp⟩
 | x :: r,i,L,hl,hn,hok,hj,h=>by
  simp only[List.length_cons] at hn
  unfold zFF at h
  by_cases h1:(flowP fs x i L).1=true
  ·rw[if_pos h1] at h
   have hl2:(flowP fs x i L).2.length=n+1:=by rw[C12.zmp];exact hl
   obtain⟨L',k1,k2,k3,k4,k5⟩:=zer r (i+1) (flowP fs x i L).2 hl2 (by omega) (C12.zq4 hok (by omega)) (fun y hy=>hj y (List.mem_cons_of_mem _ hy)) h
   have hx:=zod h1 (by omega) (fun e=>by have:=hj x (by simp) e;omega)
   refine⟨L',k1,k2,fun j hj2=>?_,k4,fun p hp=>?_⟩
   ·rw[k3 j (by rw[zfw hj2];exact hj2),zfw hj2]
   ·cases p with
    | zero=>exact hx.more k3
    | succ p=>
     have:=k5 p (by simpa using hp)
     rw[show i+1+p=i+(p+1) by omega] at this
     exact this
  ·rw[if_neg h1] at h
   cases h
def za5(x:In):Prop:=x.op=5\/x.op=6\/x.op=14
instance(x:In):Decidable (za5 x):=by unfold za5;infer_instance
def zC:List Int->List In->List In
 | _,[]=>[]
 | ns,x :: r=>if za5 x then(if x.a∈ns then {x with a:=(ns.idxOf x.a:Nat)} :: zC ns r else {x with a:=(ns.length:Nat)} :: zC (ns++[x.a]) r) else x :: zC ns r
def zc3(f:C12.Fn):C12.Fn:=⟨f.free,f.sA,zC [] f.ins⟩
def zZ(c:Cd):Cd:=⟨c.texts,c.funs.map zc3⟩
structure SameIn(x y:In)(n:Nat):Prop where
 op:y.op=x.op
 b:y.b=x.b
 a:¬ za5 x->y.a=x.a
 s:za5 x->0<=y.a/\y.a<=n
theorem zam:∀ (ns:List Int) (l:List In),(zC ns l).length=l.length
 | _,[]=>rfl
 | ns,x :: r=>by
  unfold zC
  split
  ·split
   ·rw[List.length_cons,List.length_cons,zam]
   ·rw[List.length_cons,List.length_cons,zam]
  ·rw[List.length_cons,List.length_cons,zam]
theorem zda:∀ (ns:List Int) (l:List In) (i:Nat) (hi:i < l.length) (hk:i < (zC ns l).length),SameIn (l[i]'hi) ((zC ns l)[i]'hk) (ns.length+i)
 | ns,x :: r,0,_,hk=>by
  revert hk
  unfold zC
  split
  ·rename_i hs
   split
   ·rename_i hm
    intro hk
    exact⟨rfl,rfl,fun h=>absurd hs h,fun _=>⟨by simp,by have:=List.idxOf_lt_length_of_mem hm;simp;omega⟩⟩
   ·intro hk
    exact⟨rfl,rfl,fun h=>absurd hs h,fun _=>⟨by simp,by simp⟩⟩
  ·rename_i hs
   intro hk
   exact⟨rfl,rfl,fun _=>rfl,fun h=>absurd h hs⟩
 | ns,x :: r,i+1,hi,hk=>by
  revert hk
  unfold zC
  split
  ·split
   ·intro hk
    have:=zda ns r i (by simpa using hi) (by rw[zam];simpa using hi)
    exact⟨this.op,this.b,this.a,fun h=>⟨(this.s h).1,by have h2:=(this.s h).2;show((zC ns r)[i]'(by rw[zam];simpa using hi)).a<=_;omega⟩⟩
   ·intro hk
    have:=zda (ns++[x.a]) r i (by simpa using hi) (by rw[zam];simpa using hi)
    exact⟨this.op,this.b,this.a,fun h=>⟨(this.s h).1,by have h2:=(this.s h).2;rw[lA,List.length_singleton] at h2;show((zC (ns++[x.a]) r)[i]'(by rw[zam];simpa using hi)).a<=_;omega⟩⟩
  ·intro hk
   have:=zda ns r i (by simpa using hi) (by rw[zam];simpa using hi)
   exact⟨this.op,this.b,this.a,fun h=>⟨(this.s h).1,by have h2:=(this.s h).2;show((zC ns r)[i]'(by rw[zam];simpa using hi)).a<=_;omega⟩⟩
theorem zhx(c:Cd)(k:Nat):(((zZ c).funs[k]?).getD default).free=((c.funs[k]?).getD default).free:=by
 unfold zZ
 simp only
 rw[List.getElem?_map]
 cases c.funs[k]? with
 | none=>rfl
 | some f=>rfl
theorem SameIn.takes{x y:In}{n:Nat}(h:SameIn x y n)(c:Cd):zT (zZ c).funs y=zT c.funs x:=by
 unfold zT
 rw[h.op,h.b]
 by_cases hs:za5 x
 ·unfold za5 at hs
  by_cases h5:x.op=5
  ·simp[h5]
  ·rw[if_pos (by omega),if_pos (by omega)]
 ·rw[h.a hs,zhx]
theorem zw4{x:In}(h:x.ok=true)(hf:C12.form x.op=[105]):-1000000000<=x.a/\x.a<=1000000000:=by
 unfold C12.In.ok at h
 have h1:(x.st 1).2=true:=by
  cases hc:(x.st 1).2 with
  | true=>rfl
  | false=>rw[<-x.st_stop hc (by omega),hc] at h;cases h
 have h0:(x.st 0).2=true:=by
  cases hc:(x.st 0).2 with
  | true=>rfl
  | false=>rw[C12.In.st,if_neg (by simp[hc]),hc] at h1;cases h1
 rw[C12.In.st,if_pos h0] at h1
 simp only[C12.argOk,hf,C12.In.arg] at h1
 simpa using h1
theorem ok_op{x:In}(h:x.ok=true):0<=x.op/\x.op<=25:=by
 unfold C12.In.ok at h
 have h1:(x.st 1).2=true:=by
  cases hc:(x.st 1).2 with
  | true=>rfl
  | false=>rw[<-x.st_stop hc (by omega),hc] at h;cases h
 have h0:(x.st 0).2=true:=by
  cases hc:(x.st 0).2 with
  | true=>rfl
  | false=>rw[C12.In.st,if_neg (by simp[hc]),hc] at h1;cases h1
 simpa [C12.In.st,C12.isOp] using h0
theorem zvt{nt nf:Nat}{f:C12.Fn}{x:In}{main:Bool}(h:C12.zR nt nf f x main=0):C12.opOk nt nf f x main=true:=by
 unfold C12.zR at h
 split at h
 ·cases h
 ·split at h
  ·assumption
  ·cases h
theorem zx5{c:Cd}{f:C12.Fn}{main:Bool}(hok:f.ok=true)(hfs:∀ g∈c.funs,g.ok=true)(h:(C12.funP c.texts.length c.funs f main).1=0):∃ T:Nat->Nat,FnOk (zZ c) (zc3 f) T:=by
 obtain⟨o1,o2,o3,o4⟩:=C12.Fn.ok_parts hok
 have hlen:=C12.zal o3
 unfold C12.funP at h
 cases hop:C12.zOF c.texts.length c.funs.length f main f.ins 0 with
 | some r=>
  exfalso
  rw[hop] at h
  simp only at h
  have:∀ (l:List In) (i:Nat),C12.zOF c.texts.length c.funs.length f main l i=some r->r.1≠0:=by
   intro l
   induction l with
   | nil=>intro i e;cases e
   | cons x l ih=>
    intro i e
    unfold C12.zOF at e
    split at e
    ·exact ih _ e
    ·rename_i hne
     cases e
     exact hne
  exact this _ _ hop h
 | none=>
  rw[hop] at h
  simp only at h
  have hops:=C12.zdr _ _ _ _ _ _ hop
  obtain⟨L,l1,l2,l3,l4,l5⟩:=zer f.ins 0 (zbt f.ins.length) (by simp[zbt]) (Nat.zero_add _) (C12.zja _ _) (fun x hx e=>by
   have h1:=C12.zgr (hops x hx) e
   have h2:0<=x.a:=(C12.zal (C12.In.ok_one (o4 x hx) (by rcases e with e | e | e <;> rw[e] <;> rfl))).1
   omega) h
  have hget:∀ j,j<=f.ins.length->0<=(snAt L j).tA:=fun j hj=>by
   have hj2:j < L.length:=by omega
   have e:snAt L j=L[j]'hj2:=by unfold snAt;rw[gE hj2];rfl
   rw[e]
   exact(l2 _ (List.getElem_mem hj2)).2.2.1
  have h00:=l3 0 rfl
  have hpos:0 < f.ins.length:=by
   rcases Nat.eq_zero_or_pos f.ins.length with e | e
   ·rw[e,h00] at l4
    cases l4
   ·exact e
  refine⟨fun j=>(snAt L j).tA.toNat,⟨by rw[h00];rfl,by show 0 < (zC [] f.ins).length;rw[zam];exact hpos,by show(zC [] f.ins).length<=65535;rw[zam];omega,C12.zal o1,fun p hp=>?_⟩⟩
  have hp2:p < f.ins.length:=by
   have:p < (zC [] f.ins).length:=hp
   rw[zam] at this
   exact this
  have hs:=zda [] f.ins p hp2 (by rw[zam];exact hp2)
  have hk:=l5 p hp2
  rw[Nat.zero_add] at hk
  have hx:=o4 _ (List.getElem_mem hp2)
  have ho:=hops _ (List.getElem_mem hp2)
  have hoo:=zvt ho
  have ht:=C12.zeu ho hx hfs
  have hcl:(zc3 f).ins.length=f.ins.length:=zam _ _
  show InOk (zZ c) (zc3 f) _ p ((zC [] f.ins)[p]'hp)
  generalize (zC [] f.ins)[p]'hp=y at *
  generalize f.ins[p]'hp2=x at *
  have hmay:=hk.may
  unfold mayP at hmay
  simp only[Bool.and_eq_true,decide_eq_true_eq] at hmay
  obtain⟨_,_,m3,m4,_⟩:=hmay
  have hT0:=hget p (by omega)
  have hns:∀ {k:Int},k≠5->k≠6->k≠14->y.op=k->y.a=x.a:=fun h1 h2 h3 e=>hs.a (by have:=hs.op;unfold za5;omega)
  have hcf:(zZ c).funs.length=c.funs.length:=by simp[zZ]
  unfold C12.opOk at hoo
  have hopx:=hs.op
  refine⟨by rw[hs.op];exact ok_op hx,by rw[hs.takes];exact ht,fun e=>?_,fun e=>?_,fun e=>?_,fun e=>?_,fun e=>?_,fun e=>?_,fun e=>?_,fun e=>?_,fun e=>?_,fun e=>?_,fun e=>?_,fun e=>?_,fun e=>?_,fun e=>?_,fun e=>?_,fun e=>?_⟩
  ·rw[hs.op] at e ⊢
   have hn:=hk.next e
   rw[hcl]
   have hne:p+1≠f.ins.length:=fun e2=>by
    rw[e2] at hn
    rw[hn] at l4
    cases l4
   refine⟨by omega,?_⟩
   rw[hn]
   unfold nextP
   simp only
   split
   ·omega
   ·split
    ·omega
    ·rfl
  ·rw[hs.op] at e
   have ha:y.a=x.a:=hs.a (by unfold za5;omega)
   have hj:=hk.jump e
   have h1:=C12.zgr ho e
   have h2:=C12.zal (C12.In.ok_one hx (by rcases e with e | e | e <;> rw[e] <;> rfl))
   rw[ha,hcl]
   refine⟨h2.1,h2.2,by omega,?_⟩
   rw[hj]
   rfl
  ·rw[hs.op] at e
   unfold nextP at m4
   simp only at m4
   rw[if_neg (by omega),if_pos e] at m4
   omega
  ·rw[hs.op] at e
   rw[if_pos (by omega)] at m3
   simp only[Bool.and_eq_true,decide_eq_true_eq] at m3
   rw[m3.2]
   rfl
  ·rw[hs.op] at e
   rw[hs.a (by unfold za5;omega)]
   exact zw4 hx (by rcases e with e | e <;> rw[e] <;> rfl)
  ·rw[hs.op] at e
   rw[hs.a (by unfold za5;omega)]
   have h2:=C12.zal (C12.In.ok_one hx (by rw[e];rfl))
   simp[e] at hoo
   exact⟨h2.1,hoo⟩
  ·rw[hs.op] at e
   rw[hs.a (by unfold za5;omega)]
   have h2:=C12.zal (C12.In.ok_one hx (by rw[e];rfl))
   simp[e] at hoo
   exact⟨h2.1,hoo⟩
  ·rw[hs.op] at e
   rw[hs.a (by unfold za5;omega)]
   have h2:=C12.zal (C12.In.ok_one hx (by rw[e];rfl))
   simp[e] at hoo
   exact⟨h2.1,hoo⟩
  ·rw[hs.op] at e
   have h2:=hs.s e
   simp only[List.length_nil,Nat.zero_add] at h2
   omega
  ·rw[hs.op] at e
   rw[hs.b]
   exact C12.zal (C12.In.ok_two hx (by rw[e];rfl)).2
  ·rw[hs.op] at e
   rw[hs.b,hs.a (by unfold za5;omega)]
   have h2:=C12.In.ok_two hx (by rw[e];rfl)
   have h3:=C12.zal h2.1
   have h4:=C12.zal h2.2
   simp[e] at hoo
   omega
  ·rw[hs.op] at e
   rw[hs.a (by unfold za5;omega)]
   exact C12.zal (C12.In.ok_one hx (by rcases e with e | e <;> rw[e] <;> rfl))
  ·rw[hs.op] at e
   rw[hs.a (by unfold za5;omega)]
   have h2:=C12.zal (C12.In.ok_one hx (by rw[e];rfl))
   simp[e] at hoo
   exact⟨h2.1,hoo⟩
  ·rw[hs.op] at e
   rw[hs.a (by unfold za5;omega),hcf]
   exact C12.zgq ho e
  ·rw[hs.op] at e
   rw[hs.b,hs.a (by unfold za5;omega)]
   have h2:=C12.In.ok_two hx (by rw[e];rfl)
   have h3:=C12.zal h2.1
   have h4:=C12.zal h2.2
   simp[e] at hoo
   exact⟨h3.1,hoo.1,h4.1,hoo.2⟩
  ·rw[hs.op] at e
   rw[hs.a (by unfold za5;omega)]
   have h2:=C12.zal (C12.In.ok_one hx (by rw[e];rfl))
   simp[e] at hoo
   exact⟨h2.1,hoo⟩
theorem zfj{nt:Nat}{fs:List C12.Fn} : ∀ (l:List C12.Fn) (i:Nat) (a:Int),(C12.zbx nt fs l i a).1=0->∀ j (hj:j < l.length),(C12.funP nt fs (l[j]'hj) (decide (i+j=0))).1=0
 | f :: r,i,a,h,j,hj=>by
  unfold C12.zbx at h
  by_cases h1:(C12.funP nt fs f (decide (i=0))).1=0
  ·rw[if_pos h1] at h
   cases j with
   | zero=>exact h1
   | succ j=>
    have:=zfj r (i+1) _ h j (by simpa using hj)
    rw[show i+1+j=i+(j+1) by omega] at this
    exact this
  ·rw[if_neg h1] at h
   exact absurd h h1
theorem zyb{c:Cd}(hok:c.ok=true)(h:c.chk.1=0):∃ T:Nat->Nat->Nat,CdOk (zZ c) T:=by
 obtain⟨k1,k2,k3⟩:=C12.Cd.ok_parts hok
 have hnt:=C12.zal k1
 have htx:∀ t∈c.texts,t.size<=200:=by
  unfold C12.Cd.ok at hok
  simp only[Bool.and_eq_true,List.all_eq_true] at hok
  intro t ht
  have:=hok.2.1 t ht
  unfold C12.zbi at this
  have:=of_decide_eq_true this
  omega
 unfold C12.Cd.chk at h
 cases hfs:c.funs with
 | nil=>
  rw[hfs] at h
  cases h
 | cons f r=>
  rw[hfs] at h
  simp only at h
  split at h
  ·cases h
  ·rename_i h6
   split at h
   ·rename_i hf0
    rw[<-hfs] at h h6
    have hall:=zfj _ _ _ h
    have hT:∀ i,∃ T:Nat->Nat,∀ (hi:i < c.funs.length),FnOk (zZ c) (zc3 (c.funs[i]'hi)) T:=fun i=>by
     by_cases hi:i < c.funs.length
     ·obtain⟨T,hT⟩:=zx5 (k3 _ (List.getElem_mem hi)) k3 (hall i hi)
      exact⟨T,fun _=>hT⟩
     ·exact⟨fun _=>0,fun h2=>absurd h2 hi⟩
    refine⟨fun i=>Classical.choose (hT i),⟨?_,?_,htx,?_,fun i hi=>?_⟩⟩
    ·rw[show(zZ c).funs.length=c.funs.length by simp[zZ],hfs]
     rw[hfs] at h6
     simp at h6 ⊢
     omega
    ·show c.texts.length<=65535
     omega
    ·show(((zZ c).funs[(0:Int).toNat]?).getD default).free=0
     rw[zhx,hfs]
     exact hf0
    ·have hi2:i < c.funs.length:=by simpa [zZ] using hi
     have:=Classical.choose_spec (hT i) hi2
     have e:(zZ c).funs[i]'hi=zc3 (c.funs[i]'hi2):=by simp[zZ]
     rw[e]
     exact this
   ·cases h
end Go.Proofs.YtkcmachfagcnaaaGreatDoor
namespace Go.Proofs.YtkcmachfagcnaaaGreatDoor
open Go.RowKit Go.Deep Go.IntWalk
open C12 (zX zF InsIn Cd Fn In zT)
theorem map92:Tryz.prog.underlying 92=some (.map 3 3):=by kernel_rfl
theorem zeroI(w:World):(zeroValue 3).run Tryz.prog w=.ok (.int .i64 0) w:=by kernel_rfl
theorem insK{X:List Nat}{w w':World}{b o:Nat}{l:List In}(h:InsIn w (some ⟨b,o,none⟩) l)(hk:Kp X w w')(hb:b∉X):InsIn w' (some ⟨b,o,none⟩) l:=by
 refine⟨h.len,fun i hi=>?_⟩
 obtain⟨b2,o2,h1,h2,h3,h4,h5⟩:=h.get i hi
 cases h1
 exact⟨b,o,rfl,lL h2 hk.size,hk.cell h3 hb,hk.cell h4 hb,hk.cell h5 hb⟩
theorem zu1{w:World}{b o:Nat}{cur:Array Value}{t:TypeId}{l:List In}(h:InsIn w (some ⟨b,o,none⟩) l)(hc:w.heap[b]? = some (.cells cur t)){i:Nat}(hi:i < l.length)(v:Int):InsIn (w.setCell ⟨b,o+i * 3+1,none⟩ (.int .i64 v)) (some ⟨b,o,none⟩) (l.set i {(l[i]'hi) with a:=v}):=by
 have hc2:=zaq hc (o+i * 3+1) (.int .i64 v)
 have hin:o+i * 3+1 < cur.size:=by
  obtain⟨b2,o2,h1,h2,h3,h4,h5⟩:=h.get i hi
  cases h1
  rw[zcn hc] at h4
  exact(sz h4)
 refine⟨by rw[List.length_set];exact h.len,fun j hj=>?_⟩
 rw[List.length_set] at hj
 obtain⟨b2,o2,h1,h2,h3,h4,h5⟩:=h.get j hj
 cases h1
 rw[zcn hc] at h3 h4 h5
 refine⟨b,o,rfl,by simpa using h2,?_,?_,?_⟩
 ·rw[zcn hc2,Array.getElem?_setIfInBounds,if_neg (by omega),h3,List.getElem_set]
  split <;> simp_all
 ·rw[zcn hc2,Array.getElem?_setIfInBounds,List.getElem_set]
  by_cases e:i=j
  ·subst e
   rw[if_pos rfl,if_pos hin,if_pos rfl]
  ·rw[if_neg (by omega),if_neg e,h4]
 ·rw[zcn hc2,Array.getElem?_setIfInBounds,if_neg (by omega),h5,List.getElem_set]
  split <;> simp_all
def numF(ns:List Int):Int->Option Value:=fun x=>if x∈ns then some (.int .i64 (ns.idxOf x:Nat)) else none
theorem zs7{ns:List Int}{a:Int}(h:a∉ns):upd (numF ns) a (some (.int .i64 (ns.length:Nat)))=numF (ns++[a]):=by
 funext y
 by_cases e:y=a
 ·subst e
  rw[zbf]
  unfold numF
  rw[if_pos (by simp),List.idxOf_append,if_neg h]
  simp
 ·rw[zav _ _ e]
  unfold numF
  by_cases e2:y∈ns
  ·rw[if_pos e2,if_pos (by simp[e2]),List.idxOf_append,if_pos e2]
  ·rw[if_neg e2,if_neg (by simp[e2,e])]
structure CloseAt(w:World)(b o:Nat)(l:List In)(bm:Nat)(i:Nat)(wr:World):Prop where
 mk ::
 ex:∃ (ns:List Int) (dn:List In) (cur:Array Value),dn.length=i/\dn++zC ns (l.drop i)=zC [] l/\InsIn wr (some ⟨b,o,none⟩) (dn++l.drop i)/\MapAt wr bm ns.length (numF ns)/\ns.length<=i/\Kp [b] w wr/\wr.heap[b]? = some (.cells cur 44)
theorem zlq(w:World)(b o cap:Nat)(l:List In)(hl:InsIn w (some ⟨b,o,none⟩) l)(cur0:Array Value)(hb0:w.heap[b]? = some (.cells cur0 44))(hn:l.length<=65535)(hs:∀ x∈l,za5 x->0<=x.a/\x.a<=65535):Calls Tryz.prog 14 #[.slice (some ⟨b,o,none⟩) l.length cap] w fun e w'=>e=.returned (.tuple #[])/\InsIn w' (some ⟨b,o,none⟩) (zC [] l)/\Kp [b] w w'/\∃ cur,w'.heap[b]? = some (.cells cur 44):=by
 have hlt:=(sz hb0)
 have H0:Hid (CloseAt w b o l w.heap.size 0 (w.alloc (.map #[] 0))):=by
  refine⟨[],[],cur0,rfl,rfl,?_,MapAt.made w,Nat.le_refl _,Kp.alloc [b] _ _,zaj hb0 _⟩
  exact insK hl kA (by simp)
 have Hs:=zh hs
 clear hl hb0 hs hlt
 have hmm0:=@run_makeMap Tryz.prog
 go_enter Tryz.func14,Tryz.ntmps14
 go_wp2_with fail
 clear hmm0
 generalize w.alloc _=w1 at *
 generalize hbmE:w.heap.size=bm at H0
 have Hbm:Hid (w.heap.size<=bm):=by
  unfold Hid
  omega
 clear hbmE
 go_loopg [10] l.length (fun gm iv wr=>∃ i:Nat,iv=.int .i64 i/\i<=l.length/\gm=l.length - i/\Hid (CloseAt w b o l bm i wr))
 case atStart=>exact⟨0,rfl,by omega,by omega,H0⟩
 case round=>
  obtain⟨i,rfl,hi1,rfl,HQ⟩:=hrel
  obtain⟨ns,dn,cur,hdn,hcl,hin,hmp,hns,hk,hb⟩:=HQ.o.ex
  by_cases hlt:i < l.length
  ·have hltI:(i:Int) < (l.length:Int):=by omega
   have hwi:IntKind.i64.wrap ((i:Int)+1)=((i+1:Nat):Int):=by
    rw[IntKind.wrap_i64]
    omega
   have hdr:=List.drop_eq_getElem_cons hlt
   have hmem:=List.getElem_mem hlt
   rw[hdr] at hcl hin
   generalize l[i]'hlt=x at *
   have hil:i < (dn++x :: l.drop (i+1)).length:=by
    rw[lA,List.length_cons]
    omega
   have hxi:(dn++x :: l.drop (i+1))[i]'hil=x:=by
    rw[List.getElem_append_right (by omega)]
    simp[hdn]
   obtain⟨b2,o2,e1,e2,e3,e4,e5⟩:=hin.get i hil
   cases e1
   rw[hxi] at e3 e4 e5
   have hbne:b≠bm:=by
    intro e
    exact hmp.ne e3 e
   have hka:Kp [] wr (wr.alloc (.cells #[.int .i64 x.op,.int .i64 x.a,.int .i64 x.b] 44)):=kA
   have hb2:(wr.alloc (.cells #[.int .i64 x.op,.int .i64 x.a,.int .i64 x.b] 44)).heap[b]? = some (.cells cur 44):=zaj hb _
   have hin2:=insK hin hka (by simp)
   have hmp2:=hmp.kp hka (by simp)
   have hk2:Kp [b] w (wr.alloc (.cells #[.int .i64 x.op,.int .i64 x.a,.int .i64 x.b] 44)):=hk.trans (Kp.alloc [b] _ _)
   have z0:(wr.alloc (.cells #[.int .i64 x.op,.int .i64 x.a,.int .i64 x.b] 44)).frozen? ⟨b,o+i * 3+1,none⟩=false:=by
    simp only[World.frozen?,hb2]
    rfl
   have c1:=hka.cell e4 (by simp)
   have hbx:(wr.alloc (.cells #[.int .i64 x.op,.int .i64 x.a,.int .i64 x.b] 44)).heap[wr.heap.size]? = some (.cells #[.int .i64 x.op,.int .i64 x.a,.int .i64 x.b] 44):=zab wr _
   have hbl:=(sz hb2)
   by_cases hsl:za5 x
   ·have ha:=Hs.o x hmem hsl
    have hwf:=zco (n:=x.a) (by omega)
    have hlk:=hmp2.lookOk map92 zeroI hwf
    rw[zC,if_pos hsl] at hcl
    by_cases hmm:x.a∈ns
    ·rw[if_pos hmm] at hcl
     rw[show numF ns x.a=some (.int .i64 (ns.idxOf x.a:Nat)) from if_pos hmm] at hlk
     simp only[Option.getD_some,Option.isSome_some] at hlk
     have HQ:Hid (CloseAt w b o l bm (i+1) ((wr.setCell ⟨b,o+i * 3+1,none⟩ (.int .i64 (ns.idxOf x.a:Nat))).alloc (.cells #[.int .i64 x.op,.int .i64 x.a,.int .i64 x.b] 44))):=by
      have h6:=zu1 hin hb hil (ns.idxOf x.a:Nat)
      rw[hxi,List.set_append_right _ _ (by omega),show i - dn.length=0 by omega,List.set_cons_zero] at h6
      have h7:=insK h6 (Kp.alloc [] _ (.cells #[.int .i64 x.op,.int .i64 x.a,.int .i64 x.b] 44)) (by simp)
      refine⟨ns,dn++[{x with a:=(ns.idxOf x.a:Nat)}],cur.setIfInBounds (o+i * 3+1) (.int .i64 (ns.idxOf x.a:Nat)),by simp[hdn],by rw[<-hcl];simp,by simpa using h7,(hmp.kp (Kp.setCell (X:=[b]) _ _ (by simp) _) (by simpa using hbne.symm)).kp kA (by simp),by omega,(hk.trans (Kp.setCell (X:=[b]) _ _ (by simp) _)).trans (Kp.alloc [b] _ _),zaj (zaq hb _ _) _⟩
     generalize ns.idxOf x.a=kk at *
     unfold za5 at hsl
     clear hdn hcl hin hmp hns hk hb hdr hmem hxi hil hka hin2 hmp2 hk2 hbx hmm hwf ha hb2
     rcases hsl with e | e | e
     all_goals
      rw[e] at e3 HQ c1 z0 hlk hbl
      clear e
      go_wp2_with fail
      go_roundg (l.length - (i+1))
      case measure=>omega
      case rel=>exact⟨i+1,by first | rfl | rw[hwi],by omega,rfl,HQ⟩
    ·rw[if_neg hmm] at hcl
     rw[show numF ns x.a=none from if_neg hmm] at hlk
     simp only[Option.getD_none,Option.isSome_none] at hlk
     have hln:=hmp2.len map92 3
     obtain⟨w5,hst,hmp5,hk5⟩:=hmp2.store map92 (by unfold maxLen;omega) hwf (.int .i64 (ns.length:Nat))
     rw[if_neg (by rw[show numF ns x.a=none from if_neg hmm];simp),zs7 hmm] at hmp5
     have hb5:=(hk5.block b hbl (by simpa using hbne)).trans hb2
     have hin5:=insK hin2 hk5 (by simpa using hbne)
     have hbl5:=(sz hb5)
     have z5:w5.frozen? ⟨b,o+i * 3+1,none⟩=false:=by
      simp only[World.frozen?,hb5]
      rfl
     have c5:=hk5.cell c1 (by simpa using hbne)
     have hbx5:=(hk5.block wr.heap.size (by simp) (by simp;have:=hmp.lt;omega)).trans hbx
     obtain⟨i0,i1,i2,i3⟩:=zb9 hbx5
     have hk55:Kp [b] w w5:=hk2.then hk5 (fun y hy=>Or.inr (by rw[List.mem_singleton.1 hy];exact Hbm.o))
     have HQ:Hid (CloseAt w b o l bm (i+1) (w5.setCell ⟨b,o+i * 3+1,none⟩ (.int .i64 (ns.length:Nat)))):=by
      have h6:=zu1 hin5 hb5 hil (ns.length:Nat)
      rw[hxi,List.set_append_right _ _ (by omega),show i - dn.length=0 by omega,List.set_cons_zero] at h6
      refine⟨ns++[x.a],dn++[{x with a:=(ns.length:Nat)}],cur.setIfInBounds (o+i * 3+1) (.int .i64 (ns.length:Nat)),by simp[hdn],by rw[<-hcl];simp,by simpa using h6,?_,by simp;omega,hk55.trans (Kp.setCell (X:=[b]) _ _ (by simp) _),zaq hb5 _ _⟩
      rw[lA,List.length_singleton]
      exact hmp5.kp (Kp.setCell (X:=[b]) _ _ (by simp) _) (by simpa using hbne.symm)
     generalize ns.length=kk at *
     unfold za5 at hsl
     clear hdn hcl hin hmp hns hk hb hdr hmem hxi hil hka hin2 hmp2 hk2 hbx hmm hwf ha hb2 hmp5 hk5 hk55 hb5 hin5 hbx5
     rcases hsl with e | e | e
     all_goals
      rw[e] at e3 c1 z0 hlk hbl hst hln i0
      clear e
      go_wp2_with fail
      go_roundg (l.length - (i+1))
      case measure=>omega
      case rel=>exact⟨i+1,by first | rfl | rw[hwi],by omega,rfl,HQ⟩
   ·have HQ:Hid (CloseAt w b o l bm (i+1) (wr.alloc (.cells #[.int .i64 x.op,.int .i64 x.a,.int .i64 x.b] 44))):=by
     rw[zC,if_neg hsl] at hcl
     exact⟨ns,dn++[x],cur,by simp[hdn],by rw[<-hcl];simp,by simpa using hin2,hmp2,by omega,hk2,hb2⟩
    have n5:(x.op == 5)=false:=by
     unfold za5 at hsl
     simp
     omega
    have n6:(x.op == 6)=false:=by
     unfold za5 at hsl
     simp
     omega
    have n14:(x.op == 14)=false:=by
     unfold za5 at hsl
     simp
     omega
    clear hdn hcl hin hmp hns hk hb hdr hmem hxi hil hka hin2 hmp2 hk2 hbx hb2 hsl
    go_wp2_with fail
    go_roundg (l.length - (i+1))
    case measure=>omega
    case rel=>exact⟨i+1,by first | rfl | rw[hwi],by omega,rfl,HQ⟩
  ·have hltI:¬ ((i:Int) < (l.length:Int)):=by omega
   have Q:Hid (InsIn wr (some ⟨b,o,none⟩) (zC [] l)/\Kp [b] w wr/\∃ cur,wr.heap[b]? = some (.cells cur 44)):=by
    rw[List.drop_eq_nil_of_le (by omega)] at hcl hin
    rw[zC,List.append_nil] at hcl
    rw[List.append_nil,hcl] at hin
    exact⟨hin,hk,_,hb⟩
   clear hdn hcl hin hmp hns hk hb hlt hi1
   go_wp2_with fail
   exact bodyPost_end (v:=.tuple #[]) (results_none rfl _ _ _) rfl ⟨rfl,Q.o⟩
end Go.Proofs.YtkcmachfagcnaaaGreatDoor
namespace Go.Proofs.YtkcmachfagcnaaaGreatDoor
open Go.RowKit Go.Deep Go.IntWalk
open C12 (zX zF InsIn InsC FnCells FnAt FnsNe zdm Cd Fn In zT)
structure BsIn(w:World):Prop where
 is:∃ t fr,w.heap[1]? = some (.cells (baseT.map fun l=>.string ⟨l.toArray⟩).toArray t fr)
theorem BsIn.kp{w w':World}(h:BsIn w)(hk:Kp [] w w'):BsIn w':=by
 obtain⟨t,fr,hc⟩:=h.is
 exact⟨t,fr,(hk.block 1 (sz hc) (by simp)).trans hc⟩
theorem zvj{w w':World}(h:C12.SgIn w)(hk:Kp [] w w'):C12.SgIn w':=by
 obtain⟨t,fr,hc⟩:=h.is
 exact⟨t,fr,(hk.block 0 (sz hc) (by simp)).trans hc⟩
def signV:Array Value:=#[sg [43],sg [45],sg [42],sg [47],sg [37],sg [60],sg [60,61],sg [62],sg [62,61],sg [61],sg [60,62],sg [94],sg [33],sg [58,61],sg [126]]
def baseV:Array Value:=#[sg [110,111,116],sg [112,114,105,110,116],sg [115,116,114],sg [115,105,122,101],sg [115,117,98],sg [112,97,114,116],sg [99,104,114],sg [114,101,102],sg [97,114,114,97,121],sg [108,101,110,103,116,104],sg [97,116],sg [112,117,116]]
def trunc(w:World)(n:Nat):World:={w with heap:=w.heap.extract 0 n}
theorem zey(w:World)(n:Nat){k:Nat}(hk:k < n):(trunc w n).heap[k]? = w.heap[k]?:=by
 unfold trunc
 simp only[Array.getElem?_extract]
 split
 ·simp
 ·rename_i h
  rw[Array.getElem?_eq_none (by simp at h;omega)]
theorem zbn(w:World)(n:Nat)(hn:n<=w.heap.size):(trunc w n).heap.size=n:=by
 unfold trunc
 simp
 omega
theorem zkq(w:World)(n:Nat)(hn:n<=w.heap.size):Below (trunc w n).heap.size (trunc w n) w:=by
 rw[zbn w n hn]
 exact⟨rfl,rfl,rfl,by rw[zbn w n hn];exact hn,fun k hk=>(zey w n hk).symm⟩
theorem zb6(w:World)(n:Nat){b o:Nat}(hb:b < n):(trunc w n).cell? ⟨b,o,none⟩=w.cell? ⟨b,o,none⟩:=by
 simp only[World.cell?,zey w n hb]
theorem ztg{w w':World}{n:Nat}(hk:Below w.heap.size w w')(h1:w.heap.size<=n)(h2:n<=w'.heap.size):Kp [] w (trunc w' n):=⟨hk.os,hk.tape,hk.output,by rw[zbn _ _ h2];exact h1,fun k hk2 _=>by
 rw[zey _ _ (by omega)]
 exact hk.block k hk2⟩
theorem zo8(w:World)(hS:C12.SgIn w):Calls Tryz.prog 15 #[] w fun e w'=>e=.returned (.agg signV)/\Kp [] w w':=by
 have Q:Hid (∀ o,Kp [] w (w.alloc o)):=fun o=>Kp.alloc [] _ _
 have HC:Hid (∀ o,C12.SgIn (w.alloc o)):=fun o=>zvj hS kA
 obtain⟨t0,fr0,hc0⟩:=hS.is
 have HC2:Hid (∀ o i,(w.alloc o).cell? ⟨0,i,none⟩=signV[i]?):=fun o i=>by
  obtain⟨t,fr,hc⟩:=(HC.o o).is
  simp only[World.cell?,hc]
  rfl
 have hlt:∀ o,0 < (w.alloc o).heap.size:=fun o=>by
  have:=(sz hc0)
  rw[size_alloc]
  omega
 have k0:=fun o=>HC2.o o 0
 have k1:=fun o=>HC2.o o 1
 have k2:=fun o=>HC2.o o 2
 have k3:=fun o=>HC2.o o 3
 have k4:=fun o=>HC2.o o 4
 have k5:=fun o=>HC2.o o 5
 have k6:=fun o=>HC2.o o 6
 have k7:=fun o=>HC2.o o 7
 have k8:=fun o=>HC2.o o 8
 have k9:=fun o=>HC2.o o 9
 have k10:=fun o=>HC2.o o 10
 have k11:=fun o=>HC2.o o 11
 have k12:=fun o=>HC2.o o 12
 have k13:=fun o=>HC2.o o 13
 have k14:=fun o=>HC2.o o 14
 clear hS hc0
 unfold signV sg at *
 simp only[List.getElem?_toArray,List.getElem?_cons_zero,List.getElem?_cons_succ] at k0 k1 k2 k3 k4 k5 k6 k7 k8 k9 k10 k11 k12 k13 k14
 go_enter Tryz.func15,Tryz.ntmps15
 go_wp2_with fail
 exact bR (by simp[results,Tryz.results15,go_sem]) ⟨rfl,Q.o _⟩
theorem zrt(w:World)(hS:BsIn w):Calls Tryz.prog 16 #[] w fun e w'=>e=.returned (.agg baseV)/\Kp [] w w':=by
 have Q:Hid (∀ o,Kp [] w (w.alloc o)):=fun o=>Kp.alloc [] _ _
 have HC:Hid (∀ o,BsIn (w.alloc o)):=fun o=>hS.kp kA
 obtain⟨t0,fr0,hc0⟩:=hS.is
 have HC2:Hid (∀ o i,(w.alloc o).cell? ⟨1,i,none⟩=baseV[i]?):=fun o i=>by
  obtain⟨t,fr,hc⟩:=(HC.o o).is
  simp only[World.cell?,hc]
  rfl
 have hlt:∀ o,1 < (w.alloc o).heap.size:=fun o=>by
  have:=(sz hc0)
  rw[size_alloc]
  omega
 have k0:=fun o=>HC2.o o 0
 have k1:=fun o=>HC2.o o 1
 have k2:=fun o=>HC2.o o 2
 have k3:=fun o=>HC2.o o 3
 have k4:=fun o=>HC2.o o 4
 have k5:=fun o=>HC2.o o 5
 have k6:=fun o=>HC2.o o 6
 have k7:=fun o=>HC2.o o 7
 have k8:=fun o=>HC2.o o 8
 have k9:=fun o=>HC2.o o 9
 have k10:=fun o=>HC2.o o 10
 have k11:=fun o=>HC2.o o 11
 clear hS hc0
 unfold baseV sg at *
 simp only[List.getElem?_toArray,List.getElem?_cons_zero,List.getElem?_cons_succ] at k0 k1 k2 k3 k4 k5 k6 k7 k8 k9 k10 k11
 go_enter Tryz.func16,Tryz.ntmps16
 go_wp2_with fail
 exact bR (by simp[results,Tryz.results16,go_sem]) ⟨rfl,Q.o _⟩
end Go.Proofs.YtkcmachfagcnaaaGreatDoor
