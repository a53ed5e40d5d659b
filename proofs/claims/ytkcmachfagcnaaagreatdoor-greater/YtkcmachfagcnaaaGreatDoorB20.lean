/- Part of Greater. -/
import Derived.Lib.ItoaLen
import Derived.Test.YtkcmachfagcnaaaGreatDoorB19
set_option maxHeartbeats 8000000
set_option maxRecDepth 100000
namespace Go.Proofs.YtkcmachfagcnaaaGreatDoor
open Go.RowKit Go.Deep
open C12 (Cd Fn In zT)
structure Cal where
 num:Int
 fn:Cl
 arg:Cl
 pc:Nat
 sb:Nat
 vb:Nat
 tb:Nat
instance:Inhabited Cal:=⟨⟨0,default,default,0,0,0,0⟩⟩
structure Tr where
 pc:Nat
 vals:Nat
instance:Inhabited Tr:=⟨⟨0,0⟩⟩
structure St where
 cA:List Cal
 sA:List Cl
 vA:List Cl
 tA:List Tr
def zY:List Cal->List Cl
 | []=>[]
 | c :: l=>c.fn :: c.arg :: zY l
def St.roots(s:St):List Cl:=zY s.cA++(s.sA++s.vA)
def St.cur(s:St):Cal:=(s.cA.getLast?).getD default
def St.has(s:St):Nat:=s.vA.length - s.cur.vb
def St.top(s:St)(k:Nat):Cl:=(s.vA[s.vA.length - 1 - k]?).getD default
def St.drop(s:St)(n:Nat):St:={s with vA:=s.vA.take (s.vA.length - n)}
def St.put(s:St)(v:Cl):St:={s with vA:=s.vA++[v]}
def St.slot(s:St)(i:Nat):Cl:=(s.sA[s.cur.sb+i]?).getD default
def zhv(l:List Cl)(n:Nat):List Cl:=l++List.replicate (n - l.length) default
def St.store(s:St)(i:Nat)(v:Cl):St:={s with sA:=(zhv s.sA (s.cur.sb+i+1)).set (s.cur.sb+i) v}
def St.goto(s:St)(pc:Nat):St:={s with cA:=s.cA.dropLast++[{s.cur with pc:=pc}]}
def St.leave(s:St):St:={cA:=s.cA.dropLast,sA:=s.sA.take s.cur.sb,vA:=s.vA.take s.cur.vb,tA:=s.tA.take s.cur.tb}
def St.enter(s:St)(num:Int)(fn arg:Cl):St:={s with cA:=s.cA++[⟨num,fn,arg,0,s.sA.length,s.vA.length,s.tA.length⟩]}
def num(n:Int):Cl:=⟨false,n⟩
def truth(b:Bool):Cl:=num (if b then 1 else 0)
def thK(D:Doc)(v:Cl)(kind:Int):Bool:=v.p && match D v.n with
 | some t=>decide (t.kind=kind)
 | none=>false
def tagA(D:Doc)(x:Int):Int:=((D x).getD default).tag
def lenA(D:Doc)(x:Int):Nat:=((D x).getD default).fs.length
def getA(D:Doc)(x:Int)(i:Nat):Cl:=((((D x).getD default).fs)[i]?).getD default
def setA(D:Doc)(x:Int)(i:Nat)(v:Cl):Doc:=upd D x ((D x).map fun t=>⟨t.kind,t.tag,t.fs.set i v⟩)
def hasF(D:Doc)(v:Cl)(kind:Int)(i:Nat):Bool:=thK D v kind && decide (i < lenA D v.n)
def isC(D:Doc)(v:Cl)(tag:Int):Bool:=thK D v 3 && decide (tagA D v.n=tag)
def isT(D:Doc)(v:Cl)(n:Nat):Bool:=thK D v 0 && decide (lenA D v.n=n)
def za6(n:Int):List UInt8:=(List.range 8).map fun i=>UInt8.ofNat (((n % 18446744073709551616).toNat / 256 ^ (7 - i)) % 256)
def bytesA(D:Doc)(x:Int):List UInt8:=((((D x).getD default).fs).flatMap fun c=>za6 c.n).take (tagA D x).toNat
def zgm(l:List UInt8):Nat->Int
 | 0=>0
 | i+1=>if i < l.length then bits .or .u64 (IntKind.u64.wrap (zgm l i * 256)) (IntKind.u64.wrap ((l[i]?).getD 0).toNat) else IntKind.u64.wrap (zgm l i * 256)
def pack8(l:List UInt8):Int:=IntKind.i64.wrap (zgm l 8)
def packs:Nat->List UInt8->List Cl
 | 0,_=>[]
 | k+1,l=>num (pack8 l) :: packs k (l.drop 8)
def zTT(l:List UInt8):Th:=⟨2,l.length,packs ((l.length+7) / 8) l⟩
inductive Act1
 | wrong
 | raise (k:Int)
 | give (v:Cl)
 | set (x:Int) (i:Nat) (v:Cl)
 | make (t:Th)
 | out (l:List UInt8)
def inR(n:Int):Act1:=if n < -1000000000\/1000000000 < n then .raise (-3) else .give (num n)
def reck(k:Nat)(a b:Int):Act1:=
 if k=0 then inR (a+b) else if k=1 then inR (a - b) else if k=2 then inR (a * b)
 else if k=5 then .give (truth (decide (a < b))) else if k=6 then .give (truth (decide (a<=b))) else if k=7 then .give (truth (decide (b < a))) else if k=8 then .give (truth (decide (b<=a)))
 else if b=0 then .raise (-4) else if k=3 then inR (a.tdiv b) else inR (a.tmod b)
def rowA(g:Nat->Cl->Cl->Bool×Nat):Nat->List Cl->List Cl->Bool×Nat
 | p,a :: l,b :: m=>if(g p a b).1 then rowA g (g p a b).2 l m else(false,(g p a b).2)
 | p,_,_=>(true,p)
def fsA(D:Doc)(x:Int):List Cl:=((D x).getD default).fs
def zL(D:Doc):Nat->Nat->Cl->Cl->Bool×Nat
 | 0,p,_,_=>(false,p+1)
 | f+1,p,a,b=>
  if 1000 < p+1 then(false,p+1)
  else if thK D a 2 && thK D b 2 then(decide (tagA D a.n=tagA D b.n) && decide (fsA D a.n=fsA D b.n),p+1)
  else if thK D a 0 && thK D b 0 then
   if tagA D a.n=tagA D b.n/\lenA D a.n=lenA D b.n then rowA (zL D f) (p+1) (fsA D a.n) (fsA D b.n) else(false,p+1)
  else(decide (a=b),p+1)
def compA(D:Doc)(a b:Cl)(alike:Bool):Act1:=
 if 1000 < (zL D 1001 0 a b).2 then .raise (-6) else .give (truth ((zL D 1001 0 a b).1 == alike))
def joinA(D:Doc)(a b:Cl):Act1:=
 if thK D a 2 && thK D b 2 then(if 200 < tagA D a.n+tagA D b.n then .raise (-6) else .make (zTT (bytesA D a.n++bytesA D b.n))) else .wrong
def signA(D:Doc)(k:Nat)(a v:Cl):Act1:=
 if k=12 then(if isC D v 0 then .give (getA D v.n 0) else .wrong)
 else if k=14 then(if v.p then .wrong else inR (-v.n))
 else if k=9 then compA D a v true
 else if k=10 then compA D a v false
 else if k=11 then joinA D a v
 else if k=13 then(if isC D a 0 then .set a.n 0 v else .wrong)
 else if a.p || v.p then .wrong
 else reck k a.n v.n
def strA(n:Int):List UInt8:=if n < 0 then 126 :: Lib.decDigits n.natAbs else Lib.decDigits n.toNat
def subA(D:Doc)(v:Cl):Act1:=
 if isT D v 2 && thK D (getA D v.n 0) 2 && !(getA D v.n 1).p then
  (if(getA D v.n 1).n < 0\/((bytesA D (getA D v.n 0).n).length:Int)<=(getA D v.n 1).n then .raise (-5) else .give (num (((bytesA D (getA D v.n 0).n)[(getA D v.n 1).n.toNat]?.getD 0).toNat)))
 else .wrong
def partA(D:Doc)(v:Cl):Act1:=
 if isT D v 3 && thK D (getA D v.n 0) 2 && !(getA D v.n 1).p then
  (if(getA D v.n 2).p then .wrong
  else if(getA D v.n 1).n < 0\/(getA D v.n 2).n < 0\/((bytesA D (getA D v.n 0).n).length:Int) < (getA D v.n 1).n+(getA D v.n 2).n then .raise (-5)
  else .make (zTT (((bytesA D (getA D v.n 0).n).drop (getA D v.n 1).n.toNat).take (getA D v.n 2).n.toNat)))
 else .wrong
def zf6(D:Doc)(v:Cl):Act1:=
 if isT D v 2 && !(getA D v.n 0).p then
  (if(getA D v.n 0).n < 0\/100 < (getA D v.n 0).n then .raise (-6) else .make ⟨3,1,List.replicate (getA D v.n 0).n.toNat (getA D v.n 1)⟩)
 else .wrong
def atA(D:Doc)(put:Bool)(v:Cl):Act1:=
 if isT D v (if put then 3 else 2) && isC D (getA D v.n 0) 1 && !(getA D v.n 1).p then
  (if(getA D v.n 1).n < 0\/(lenA D (getA D v.n 0).n:Int)<=(getA D v.n 1).n then .raise (-5)
  else if put then .set (getA D v.n 0).n (getA D v.n 1).n.toNat (getA D v.n 2) else .give (getA D (getA D v.n 0).n (getA D v.n 1).n.toNat))
 else .wrong
def baseA(D:Doc)(out:List UInt8)(k:Nat)(v:Cl):Act1:=
 if k=0 then(if v.p then .wrong else .give (truth (decide (v.n=0))))
 else if k=1 then(if thK D v 2 then(if 2000 < out.length+(bytesA D v.n).length then .raise (-6) else .out (bytesA D v.n)) else .wrong)
 else if k=2 then(if v.p then .wrong else .make (zTT (strA v.n)))
 else if k=3 then(if thK D v 2 then .give (num (tagA D v.n)) else .wrong)
 else if k=4 then subA D v
 else if k=5 then partA D v
 else if k=6 then(if v.p then .wrong else if v.n < 0\/255 < v.n then .raise (-5) else .make (zTT [UInt8.ofNat v.n.toNat]))
 else if k=7 then .make ⟨3,0,[v]⟩
 else if k=8 then zf6 D v
 else if k=9 then(if isC D v 1 then .give (num (lenA D v.n)) else .wrong)
 else if k=10 then atA D false v
 else atA D true v
def St.lastN(s:St)(n:Nat):List Cl:=s.vA.drop (s.vA.length - n)
def zW(c:Cd)(D:Doc)(s:St)(x:In):Act1:=
 if x.op=0 then .give (num x.a)
 else if x.op=1 then .make (zTT ((c.texts[x.a.toNat]?).getD ⟨#[]⟩).data.toList)
 else if x.op=2 then .make ⟨1,60000+x.a,[]⟩
 else if x.op=3 then .give s.cur.arg
 else if x.op=4 then .give (getA D s.cur.fn.n x.a.toNat)
 else if x.op=5 then .give (s.slot x.a.toNat)
 else if x.op=7 then .make ⟨0,x.a,s.lastN x.b.toNat⟩
 else if x.op=13 then .make ⟨1,x.a,s.lastN ((c.funs[x.a.toNat]?).getD default).free.toNat⟩
 else if x.op=8 then(if hasF D (s.top 0) 0 x.a.toNat then .give (getA D (s.top 0).n x.a.toNat) else .wrong)
 else if x.op=9 then .give (truth (decide (s.top 0=num x.a)))
 else if x.op=10 then .give (truth (thK D (s.top 0) 0 && decide (tagA D (s.top 0).n=x.a)))
 else if x.op=11 then .give (truth (decide (s.top 1=s.top 0)))
 else if x.op=12 then signA D x.a.toNat (s.top 1) (s.top 0)
 else if x.op=23 then .make ⟨4,x.b,[num x.a]⟩
 else .give (num (-1 - x.a))
structure AM where
 s:St
 D:Doc
 next:Int
 kind:Int
 name:ByteArray
 out:List UInt8
 steps:Nat
def AM.make(m:AM)(t:Th):AM:={m with D:=upd m.D m.next (some t),next:=m.next+1}
def AM.over(m:AM):AM:={m with kind:=3,next:=m.next+1}
def exnT:List (List UInt8):=[[77,97,116,99,104],[66,105,110,100],[79,118,101,114,102,108,111,119],[68,105,118],[66,111,117,110,100,115],[83,105,122,101]]
def nameA(c:Cd)(D:Doc)(v:Cl):ByteArray:=
 if v.p then(c.texts[(getA D v.n 0).n.toNat]?).getD ⟨#[]⟩ else⟨((exnT[(-1 - v.n).toNat]?).getD []).toArray⟩
def zRS(v:Cl):Nat->St->St×Bool
 | 0,s=>(s,false)
 | f+1,s=>
  if s.cA.length=0 then(s,false)
  else if s.cur.tb < s.tA.length then
   let t:=(s.tA.getLast?).getD default
   let vs:=s.vA.take (min s.vA.length (s.cur.vb+t.vals))
   ({cA:=s.cA.dropLast++[{s.cur with pc:=t.pc}],sA:=s.sA,vA:=vs++[v],tA:=s.tA.dropLast},true)
  else zRS v f s.leave
def AM.raise(c:Cd)(m:AM)(v:Cl):AM:=
 if(zRS v (m.s.cA.length+1) m.s).2 then {m with s:=(zRS v (m.s.cA.length+1) m.s).1,kind:=0}
 else {m with s:=(zRS v (m.s.cA.length+1) m.s).1,kind:=2,name:=nameA c m.D (getA m.D v.n 0)}
abbrev Room:=Doc->List Cl->Nat->Prop
section
open Classical
variable(ok:Room)(c:Cd)
noncomputable def AM.fail(m:AM)(k:Int)(takes:Nat):AM:=
 if ok m.D m.s.roots 1 then AM.raise c {m.make ⟨0,0,[num k]⟩ with s:=m.s.drop takes} ⟨true,m.next⟩ else m.over
noncomputable def AM.act(m:AM)(a:Act1)(takes:Nat)(k:AM->Cl->AM):AM:=match a with
 | .wrong=>{m with kind:=4}
 | .raise e=>AM.fail ok c m e takes
 | .give v=>k m v
 | .set x i v=>k {m with D:=setA m.D x i v} (num 0)
 | .make t=>if ok m.D m.s.roots t.fs.length then k (m.make t) ⟨true,m.next⟩ else m.over
 | .out l=>k {m with out:=m.out++l} (num 0)
def AM.giveS(m:AM)(v:Cl):AM:=if m.s.leave.cA.length=0 then {m with s:=m.s.leave,kind:=1} else {m with s:=m.s.leave.put v,kind:=0}
noncomputable def AM.call(m:AM)(tail:Bool):AM:=
 if thK m.D (m.s.top 1) 1 then
  (if 60000<=tagA m.D (m.s.top 1).n then
   (if 0 < lenA m.D (m.s.top 1).n then {m with kind:=4}
   else AM.act ok c m (baseA m.D m.out (tagA m.D (m.s.top 1).n - 60000).toNat (m.s.top 0)) 2 (fun m v=>if tail then m.giveS v else {m with s:=(m.s.drop 2).put v,kind:=0}))
  else if tail then {m with s:=m.s.leave.enter (tagA m.D (m.s.top 1).n) (m.s.top 1) (m.s.top 0),kind:=0}
  else if m.s.cA.length=500 then {m with kind:=3}
  else {m with s:=(m.s.drop 2).enter (tagA m.D (m.s.top 1).n) (m.s.top 1) (m.s.top 0),kind:=0})
 else {m with kind:=4}
noncomputable def AM.doT(m:AM)(x:In)(takes:Nat):AM:=
 if(m.s.has:Int) < zT c.funs x then {m with kind:=4}
 else if x.op=6 then {m with s:=(m.s.store x.a.toNat (m.s.top 0)).drop takes,kind:=0}
 else if x.op=25 then {m with s:=m.s.drop takes,kind:=0}
 else if x.op=14 then(if hasF m.D (m.s.slot x.a.toNat) 1 x.b.toNat then {m with D:=setA m.D (m.s.slot x.a.toNat).n x.b.toNat (m.s.top 0),s:=m.s.drop takes,kind:=0} else {m with kind:=4})
 else if x.op=18 then {m with s:=(m.s.goto x.a.toNat).drop takes,kind:=0}
 else if x.op=19 then(if(m.s.top 0).p then {m with kind:=4} else {m with s:=(if(m.s.top 0).n=1 then m.s else m.s.goto x.a.toNat).drop takes,kind:=0})
 else if x.op=20 then {m with s:={m.s with tA:=m.s.tA++[Tr.mk x.a.toNat m.s.has]:St}.drop takes,kind:=0}
 else if x.op=21 then {m with s:={m.s with tA:=m.s.tA.dropLast:St}.drop takes,kind:=0}
 else if x.op=15\/x.op=16 then AM.call ok c m (decide (x.op=16))
 else if x.op=17 then m.giveS (m.s.top 0)
 else if x.op=22 then
  (if thK m.D (m.s.top 0) 0 && (if(getA m.D (m.s.top 0).n 0).p then thK m.D (getA m.D (m.s.top 0).n 0) 4 else decide (-6<=(getA m.D (m.s.top 0).n 0).n/\(getA m.D (m.s.top 0).n 0).n<=-1)) then AM.raise c {m with s:=m.s.drop takes} (m.s.top 0) else {m with kind:=4})
 else AM.act ok c m (zW c m.D m.s x) takes (fun m v=>{m with s:=(m.s.drop takes).put v,kind:=0})
noncomputable def AM.doI(m:AM)(x:In):AM:=AM.doT ok c m x (zT c.funs x).toNat
def AM.ins(m:AM):In:=((((c.funs[m.s.cur.num.toNat]?).getD default).ins)[m.s.cur.pc]?).getD default
def AM.tick(m:AM):AM:=if m.kind=3\/m.kind=4 then m else {m with steps:=m.steps+1}
noncomputable def AM.step(m:AM):AM:=AM.tick (AM.doI ok c {m with s:=m.s.goto (m.s.cur.pc+1)} (m.ins c))
def AM.goes(m:AM):Prop:=m.kind=0/\m.s.cA.length≠0
noncomputable def AM.run:Nat->AM->AM
 | 0,m=>m
 | n+1,m=>if m.goes then AM.run n (AM.step ok c m) else m
end
section
variable{ok ok':Room}
theorem zjy(h:∀ D q n,ok D q n->ok' D q n)(c:Cd)(m:AM)(k:Int)(takes:Nat):AM.fail ok c m k takes=AM.fail ok' c m k takes\/(AM.fail ok c m k takes).kind=3:=by
 unfold AM.fail
 by_cases h1:ok m.D m.s.roots 1
 ·rw[if_pos h1,if_pos (h _ _ _ h1)]
  exact Or.inl rfl
 ·rw[if_neg h1]
  exact Or.inr rfl
theorem zhi(h:∀ D q n,ok D q n->ok' D q n)(c:Cd)(m:AM)(a:Act1)(takes:Nat)(k:AM->Cl->AM):AM.act ok c m a takes k=AM.act ok' c m a takes k\/(AM.act ok c m a takes k).kind=3:=by
 cases a with
 | raise e=>exact zjy h c m e takes
 | make t=>
  unfold AM.act
  simp only
  by_cases h1:ok m.D m.s.roots t.fs.length
  ·rw[if_pos h1,if_pos (h _ _ _ h1)]
   exact Or.inl rfl
  ·rw[if_neg h1]
   exact Or.inr rfl
 | _=>exact Or.inl rfl
theorem zj7(h:∀ D q n,ok D q n->ok' D q n)(c:Cd)(m:AM)(tail:Bool):AM.call ok c m tail=AM.call ok' c m tail\/(AM.call ok c m tail).kind=3:=by
 unfold AM.call
 split
 ·split
  ·split
   ·exact Or.inl rfl
   ·exact zhi h c _ _ _ _
  ·exact Or.inl rfl
 ·exact Or.inl rfl
theorem zea{p:Prop} [Decidable p]{a b a' b':AM}(h1:a=a'\/a.kind=3)(h2:b=b'\/b.kind=3):(if p then a else b)=(if p then a' else b')\/(if p then a else b).kind=3:=by
 split
 ·exact h1
 ·exact h2
theorem zoi(h:∀ D q n,ok D q n->ok' D q n)(c:Cd)(m:AM)(x:In):AM.doI ok c m x=AM.doI ok' c m x\/(AM.doI ok c m x).kind=3:=by
 unfold AM.doI AM.doT
 refine zea (Or.inl rfl) (zea (Or.inl rfl) (zea (Or.inl rfl) (zea (Or.inl rfl) (zea (Or.inl rfl) (zea (Or.inl rfl) (zea (Or.inl rfl) (zea (Or.inl rfl) (zea ?_ (zea (Or.inl rfl) (zea (Or.inl rfl) ?_))))))))))
 ·exact zj7 h c _ _
 ·exact zhi h c _ _ _ _
theorem zi9(h:∀ D q n,ok D q n->ok' D q n)(c:Cd)(m:AM):AM.step ok c m=AM.step ok' c m\/(AM.step ok c m).kind=3:=by
 unfold AM.step
 rcases zoi h c {m with s:=m.s.goto (m.s.cur.pc+1)} (m.ins c) with e | e
 ·rw[e]
  exact Or.inl rfl
 ·unfold AM.tick
  rw[if_pos (Or.inl e)]
  exact Or.inr e
theorem zgj(h:∀ D q n,ok D q n->ok' D q n)(c:Cd):∀ (n:Nat) (m:AM),AM.run ok c n m=AM.run ok' c n m\/(AM.run ok c n m).kind=3
 | 0,_=>Or.inl rfl
 | n+1,m=>by
  unfold AM.run
  by_cases hg:m.goes
  ·rw[if_pos hg,if_pos hg]
   rcases zi9 h c m with e | e
   ·rw[e]
    exact zgj h c n _
   ·right
    have:AM.run ok c n (AM.step ok c m)=AM.step ok c m:=by
     cases n with
     | zero=>rfl
     | succ n=>
      unfold AM.run
      rw[if_neg (fun hg2=>by have:=hg2.1;rw[e] at this;cases this)]
    rw[this]
    exact e
  ·rw[if_neg hg,if_neg hg]
   exact Or.inl rfl
end
theorem ze5(ok:Room)(c:Cd)(n:Nat)(m:AM)(h:¬ m.goes):AM.run ok c n m=m:=by
 cases n with
 | zero=>rfl
 | succ n=>
  unfold AM.run
  rw[if_neg h]
theorem zpc(ok:Room)(c:Cd):∀ (a b:Nat) (m:AM),AM.run ok c (a+b) m=AM.run ok c b (AM.run ok c a m)
 | 0,b,m=>by rw[Nat.zero_add];rfl
 | a+1,b,m=>by
  rw[show a+1+b=(a+b)+1 by omega]
  by_cases hg:m.goes
  ·have e1:AM.run ok c (a+b+1) m=AM.run ok c (a+b) (AM.step ok c m):=by
    rw[AM.run,if_pos hg]
   have e2:AM.run ok c (a+1) m=AM.run ok c a (AM.step ok c m):=by
    rw[AM.run,if_pos hg]
   rw[e1,e2,zpc ok c a b]
  ·rw[ze5 ok c _ m hg,ze5 ok c _ m hg,ze5 ok c _ m hg]
structure MF where
 pt:Option Addr
 nt:Nat
 ct:Nat
 pf:Option Addr
 nf:Nat
 cf:Nat
 hp:Nat
 vc:Value
 vs:Value
 vv:Value
 vt:Value
 kind:Int
 name:ByteArray
 vo:Value
 steps:Int
def sg(l:List UInt8):Value:=.string ⟨l.toArray⟩
def MF.arr(f:MF):Array Value:=#[.slice f.pt f.nt f.ct,.slice f.pf f.nf f.cf,.pointer (some ⟨f.hp,0,none⟩),
 sg [43],sg [45],sg [42],sg [47],sg [37],sg [60],sg [60,61],sg [62],sg [62,61],sg [61],sg [60,62],sg [94],sg [33],sg [58,61],sg [126],
 sg [110,111,116],sg [112,114,105,110,116],sg [115,116,114],sg [115,105,122,101],sg [115,117,98],sg [112,97,114,116],sg [99,104,114],sg [114,101,102],sg [97,114,114,97,121],sg [108,101,110,103,116,104],sg [97,116],sg [112,117,116],
 f.vc,f.vs,f.vv,f.vt,.int .i64 f.kind,.string f.name,f.vo,.int .i64 f.steps]
def MBx(w:World)(mm:Nat)(f:MF):Prop:=w.heap[mm]? = some (.cells f.arr 64)
section
variable{w:World}{mm:Nat}{f:MF}
theorem MBx.lt(h:MBx w mm f):mm < w.heap.size:=(sz h)
theorem MBx.at(h:MBx w mm f)(i:Nat):w.cell? ⟨mm,i,none⟩=f.arr[i]?:=by
 unfold MBx at h
 simp only[World.cell?,h]
 rfl
theorem MBx.code(h:MBx w mm f):w.cell? ⟨mm,0,none⟩=some (.slice f.pt f.nt f.ct)/\w.cell? ⟨mm,1,none⟩=some (.slice f.pf f.nf f.cf)/\mm < w.heap.size:=⟨h.at 0,h.at 1,h.lt⟩
theorem MBx.heap(h:MBx w mm f):w.cell? ⟨mm,2,none⟩=some (.pointer (some ⟨f.hp,0,none⟩))/\mm < w.heap.size:=⟨h.at 2,h.lt⟩
theorem MBx.rows(h:MBx w mm f):w.cell? ⟨mm,30,none⟩=some f.vc/\w.cell? ⟨mm,31,none⟩=some f.vs/\w.cell? ⟨mm,32,none⟩=some f.vv/\w.cell? ⟨mm,33,none⟩=some f.vt/\mm < w.heap.size:=⟨h.at 30,h.at 31,h.at 32,h.at 33,h.lt⟩
theorem MBx.tell(h:MBx w mm f):w.cell? ⟨mm,34,none⟩=some (.int .i64 f.kind)/\w.cell? ⟨mm,35,none⟩=some (.string f.name)/\w.cell? ⟨mm,36,none⟩=some f.vo/\w.cell? ⟨mm,37,none⟩=some (.int .i64 f.steps)/\mm < w.heap.size:=⟨h.at 34,h.at 35,h.at 36,h.at 37,h.lt⟩
theorem MBx.frozen(h:MBx w mm f)(i:Nat):w.frozen? ⟨mm,i,none⟩=false:=by
 unfold MBx at h
 simp[World.frozen?,h]
theorem MBx.kp{X:List Nat}{w':World}(h:MBx w mm f)(hk:Kp X w w')(hx:mm∉X):MBx w' mm f:=(hk.block mm h.lt hx).trans h
theorem zaq{w:World}{b:Nat}{a:Array Value}{t:TypeId}(h:w.heap[b]? = some (.cells a t))(i:Nat)(v:Value):(w.setCell ⟨b,i,none⟩ v).heap[b]? = some (.cells (a.setIfInBounds i v) t):=by
 simp[World.setCell,Array.getElem?_modify,h]
theorem MBx.setC(h:MBx w mm f)(v:Value):MBx (w.setCell ⟨mm,30,none⟩ v) mm {f with vc:=v}:=zaq h 30 v
theorem MBx.setS(h:MBx w mm f)(v:Value):MBx (w.setCell ⟨mm,31,none⟩ v) mm {f with vs:=v}:=zaq h 31 v
theorem MBx.setV(h:MBx w mm f)(v:Value):MBx (w.setCell ⟨mm,32,none⟩ v) mm {f with vv:=v}:=zaq h 32 v
theorem MBx.setT(h:MBx w mm f)(v:Value):MBx (w.setCell ⟨mm,33,none⟩ v) mm {f with vt:=v}:=zaq h 33 v
theorem MBx.setK(h:MBx w mm f)(k:Int):MBx (w.setCell ⟨mm,34,none⟩ (.int .i64 k)) mm {f with kind:=k}:=zaq h 34 _
theorem MBx.setN(h:MBx w mm f)(s:ByteArray):MBx (w.setCell ⟨mm,35,none⟩ (.string s)) mm {f with name:=s}:=zaq h 35 _
theorem MBx.setO(h:MBx w mm f)(v:Value):MBx (w.setCell ⟨mm,36,none⟩ v) mm {f with vo:=v}:=zaq h 36 v
theorem MBx.setI(h:MBx w mm f)(k:Int):MBx (w.setCell ⟨mm,37,none⟩ (.int .i64 k)) mm {f with steps:=k}:=zaq h 37 _
end
def calV(c:Cal):List Value:=[.int .i64 c.num,.bool c.fn.p,.int .i64 c.fn.n,.bool c.arg.p,.int .i64 c.arg.n,.int .i64 c.pc,.int .i64 c.sb,.int .i64 c.vb,.int .i64 c.tb]
def zd2(l:List Cal):List Value:=l.flatMap calV
def OwnK(w:World)(base:Nat)(v:Value)(l:List Cal):Prop:=w.ownsRow base 69 9 v l.length (zd2 l)
def trV(t:Tr):List Value:=[.int .i64 t.pc,.int .i64 t.vals]
def zf0(l:List Tr):List Value:=l.flatMap trV
def OwnT(w:World)(base:Nat)(v:Value)(l:List Tr):Prop:=w.ownsRow base 137 2 v l.length (zf0 l)
def byteV(b:UInt8):Value:=.int .u8 b.toNat
def OwnB(w:World)(base:Nat)(v:Value)(l:List UInt8):Prop:=w.ownsRow base 5 1 v l.length (l.map byteV)
theorem zmq{α:Type}(f:α->List Value)(k:Nat)(hf:∀ x,(f x).length=k)(l:List α):(l.flatMap f).length=l.length * k:=by
 induction l with
 | nil=>simp
 | cons x r ih=>rw[List.flatMap_cons,lA,ih,hf,List.length_cons,Nat.succ_mul];omega
theorem zcr{α:Type}(f:α->List Value)(k:Nat)(hf:∀ x,(f x).length=k):∀ (l:List α) (i:Nat) (hi:i < l.length) (j:Nat),j < k->(l.flatMap f)[i * k+j]? = (f (l[i]'hi))[j]?
 | x :: r,0,_,j,hj=>by
  rw[List.flatMap_cons,Nat.zero_mul,Nat.zero_add,List.getElem?_append_left (by rw[hf];exact hj)]
  rfl
 | x :: r,i+1,hi,j,hj=>by
  rw[List.flatMap_cons,List.getElem?_append_right (by rw[hf,Nat.succ_mul];omega),hf,show(i+1) * k+j - k=i * k+j by rw[Nat.succ_mul];omega]
  exact zcr f k hf r i (by simpa using hi) j hj
theorem zgn{w:World}{base:Nat}{e:TypeId}{size:Nat}{g n cap:Nat}{cur:Array Value}{xs:List Value}(hg:base<=g)(hh:w.heap[g]? = some (.cells cur e))(hn:n<=cap)(hm:cap<=maxLen)(hs:cur.size=cap * size)(hl:xs.length=n * size)(hx:∀ j,j < n * size->cur[j]? = xs[j]?):w.ownsRow base e size (.slice (some ⟨g,0,none⟩) n cap) n xs:=by
 refine⟨hl,.inr ⟨g,cap,cur,rfl,hg,hh,hn,hm,hs,?_⟩⟩
 apply List.ext_getElem?
 intro j
 have hle:n * size<=cap * size:=Nat.mul_le_mul_right _ hn
 by_cases hj:j < n * size
 ·rw[List.getElem?_take_of_lt hj,Array.getElem?_toList]
  exact hx j hj
 ·rw[List.getElem?_eq_none (by simp;omega),List.getElem?_eq_none (by omega)]
theorem zbg{w:World}{base:Nat}{e:TypeId}{size:Nat}{v:Value}{n:Nat}{xs:List Value}(h:w.ownsRow base e size v n xs):(v=.slice none 0 0/\n=0)\/∃ g cap cur,v=.slice (some ⟨g,0,none⟩) n cap/\base<=g/\w.heap[g]? = some (.cells cur e)/\n<=cap/\cap<=maxLen/\cur.size=cap * size/\∀ j,j < n * size->cur[j]? = xs[j]?:=by
 rcases h.2 with h1 | ⟨g,cap,cur,h1,h2,h3,h4,h5,h6,h7⟩
 ·exact Or.inl h1
 ·refine Or.inr ⟨g,cap,cur,h1,h2,h3,h4,h5,h6,fun j hj=>?_⟩
  rw[<-h7,List.getElem?_take_of_lt hj,Array.getElem?_toList]
theorem zpx{w w':World}{base:Nat}{e:TypeId}{size:Nat}{v:Value}{n:Nat}{xs:List Value}(h:w.ownsRow base e size v n xs)(hk:∀ k,v.ownBlock=some k->w'.heap[k]? = w.heap[k]?):w'.ownsRow base e size v n xs:=by
 obtain⟨q1,q2⟩:=h
 refine⟨q1,?_⟩
 rcases q2 with q2 | ⟨g,cap,cur,qv,qg,qh,qq⟩
 ·exact .inl q2
 ·exact .inr ⟨g,cap,cur,qv,qg,(hk g (by rw[qv];rfl)).trans qh,qq⟩
theorem za8{w:World}{base:Nat}{e:TypeId}{size:Nat}{v:Value}{n:Nat}{xs:List Value}(h:w.ownsRow base e size v n xs):∀ k,v.ownBlock=some k->base<=k/\k < w.heap.size/\∃ cur,w.heap[k]? = some (.cells cur e):=by
 intro k hk
 rcases h.2 with⟨rfl,h0⟩ | ⟨g,cap,cur,rfl,h1,h2,_⟩
 ·cases hk
 ·simp[Value.ownBlock] at hk
  subst hk
  exact⟨h1,(sz h2),cur,h2⟩
theorem zaf{X:List Nat}{w w':World}{base:Nat}{e:TypeId}{size:Nat}{v:Value}{n:Nat}{xs:List Value}(h:w.ownsRow base e size v n xs)(hk:Kp X w w')(hX:∀ k,v.ownBlock=some k->k∉X):w'.ownsRow base e size v n xs:=zpx h (fun k e=>hk.block k (za8 h k e).2.1 (hX k e))
theorem zpw{w:World}{base:Nat}{e:TypeId}{size:Nat}{v:Value}{n:Nat}{xs:List Value}(h:w.ownsRow base e size v n xs){m:Nat}(hm:m<=n):∃ q cap,v=.slice q n cap/\m<=cap/\w.ownsRow base e size (.slice q m cap) m (xs.take (m * size))/\(Value.slice q m cap).ownBlock=v.ownBlock:=by
 have hl:=h.1
 have hle:m * size<=n * size:=Nat.mul_le_mul_right _ hm
 rcases zbg h with⟨rfl,rfl⟩ | ⟨g,cap,cur,rfl,h2,h3,h4,h5,h6,h7⟩
 ·obtain rfl:m=0:=by omega
  exact⟨none,0,rfl,Nat.le_refl _,⟨by simp,.inl ⟨rfl,rfl⟩⟩,rfl⟩
 ·refine⟨some ⟨g,0,none⟩,cap,rfl,by omega,zgn h2 h3 (by omega) h5 h6 (by rw[List.length_take];omega) (fun j hj=>?_),rfl⟩
  rw[List.getElem?_take_of_lt hj]
  exact h7 j (by omega)
structure Fx where
 wc:World
 mm:Nat
 hp:Nat
 base:Nat
 pt:Option Addr
 ct:Nat
 pf:Option Addr
 cf:Nat
 cd:Cd
 cells:Int
structure Pg where
 first:Int
 v:Value
 ts:List Th
 vc:Value
 vs:Value
 vv:Value
 vt:Value
 vo:Value
 s:St
def mfOf(X:Fx)(g:Pg)(m:AM):MF:=⟨X.pt,X.cd.texts.length,X.ct,X.pf,X.cd.funs.length,X.cf,X.hp,g.vc,g.vs,g.vv,g.vt,m.kind,m.name,g.vo,m.steps⟩
structure CalIso(R:Int->Int->Prop)(c d:Cal):Prop where
 num:c.num=d.num
 pc:c.pc=d.pc
 sb:c.sb=d.sb
 vb:c.vb=d.vb
 tb:c.tb=d.tb
 fn:zI R c.fn d.fn
 arg:zI R c.arg d.arg
structure StIso(R:Int->Int->Prop)(p a:St):Prop where
 cl:p.cA.length=a.cA.length
 ca:∀ i (hi:i < p.cA.length) (hk:i < a.cA.length),CalIso R (p.cA[i]'hi) (a.cA[i]'hk)
 sl:zV R p.sA a.sA
 va:zV R p.vA a.vA
 tr:p.tA=a.tA
theorem zV.app{R:Int->Int->Prop}{l k l' k':List Cl}(h:zV R l k)(h':zV R l' k'):zV R (l++l') (k++k'):=by
 have e:=h.len
 have e':=h'.len
 refine⟨by simp[e,e'],fun i hi hk=>?_⟩
 by_cases c:i < l.length
 ·rw[List.getElem_append_left c,List.getElem_append_left (by omega)]
  exact h.at_ i c (by omega)
 ·rw[List.getElem_append_right (by omega),List.getElem_append_right (by omega)]
  simp only[e]
  exact h'.at_ _ (by simp at hi;omega) (by simp at hk;omega)
theorem zV.take{R:Int->Int->Prop}{l k:List Cl}(h:zV R l k)(n:Nat):zV R (l.take n) (k.take n):=by
 refine⟨by simp[h.len],fun i hi hk=>?_⟩
 rw[List.getElem_take,List.getElem_take]
 exact h.at_ i (by simp at hi;omega) (by simp at hk;omega)
theorem zV.dropN{R:Int->Int->Prop}{l k:List Cl}(h:zV R l k)(n:Nat):zV R (l.drop n) (k.drop n):=by
 refine⟨by simp[h.len],fun i hi hk=>?_⟩
 rw[List.getElem_drop,List.getElem_drop]
 exact h.at_ _ (by simp at hi;omega) (by simp at hk;omega)
theorem zV.none{R:Int->Int->Prop} : zV R [] []:=⟨rfl,fun i hi=>by cases hi⟩
theorem zhr{R:Int->Int->Prop} : ∀ (l k:List Cal),l.length=k.length->(∀ i (hi:i < l.length) (hk:i < k.length),CalIso R (l[i]'hi) (k[i]'hk))->zV R (zY l) (zY k)
 | [],[],_,_=>zV.none
 | c :: l,d :: k,e,h=>by
  have h0:=h 0 (by simp) (by simp)
  have hr:=zhr l k (by simpa using e) (fun i hi hk=>h (i+1) (by simpa using hi) (by simpa using hk))
  have h2:=((zV.none (R:=R)).snoc h0.fn).snoc h0.arg
  exact h2.app hr
theorem StIso.roots{R:Int->Int->Prop}{p a:St}(h:StIso R p a):zV R p.roots a.roots:=(zhr _ _ h.cl h.ca).app (h.sl.app h.va)
structure J(X:Fx)(w:World)(g:Pg)(m:AM)(R:Int->Int->Prop):Prop where
 box:MBx w X.mm (mfOf X g m)
 oc:OwnK w X.base g.vc g.s.cA
 os:OwnC w X.base g.vs g.s.sA
 ov:OwnC w X.base g.vv g.s.vA
 ot:OwnT w X.base g.vt g.s.tA
 oo:OwnB w X.base g.vo m.out
 dj:∀ k,g.vs.ownBlock=some k->g.vv.ownBlock≠some k
 hh:HpO w X.hp X.cells g.first g.v (encL (fun _=>0) g.first g.ts)
 cl:zdn g.first g.ts
 oth:∀ t∈g.ts,okTh t
 wfr:∀ c∈g.s.roots,wfC c
 one:OneOne R
 st:StIso R g.s m.s
 th:∀ x y,R x y->∃ t u,zO g.first g.ts x=some t/\m.D y=some u/\ThIso R t u
 bl:Below X.wc.heap.size X.wc w
 lb:X.wc.heap.size<=X.mm/\X.wc.heap.size<=X.hp/\X.wc.heap.size<=X.base/\∀ k,g.v.ownBlock=some k->X.wc.heap.size<=k
 bs:X.base<=w.heap.size
 ck:0<=X.cells/\X.cells<=1000000
 fb:g.first<=1+1000001 * (m.next+1)
 nx:0<=m.next/\m.next<=1000000000
 nd:∀ y,(m.D y).isSome=true->y < m.next
 len:g.s.cA.length<=500/\g.s.sA.length<=1000000000/\g.s.vA.length<=1000000000/\g.s.tA.length<=1000000000/\m.out.length<=2000
section
variable{X:Fx}{w:World}{g:Pg}{m:AM}{R:Int->Int->Prop}
theorem J.iso(h:J X w g m R):Iso (zO g.first g.ts) m.D R g.s.roots m.s.roots:=⟨h.one,h.st.roots,h.th⟩
theorem J.kp(h:J X w g m R){w':World}(hk:Kp [] w w'):J X w' g m R:=
 ⟨h.box.kp hk (by simp),zaf h.oc hk (by simp),zaf h.os hk (by simp),zaf h.ov hk (by simp),zaf h.ot hk (by simp),zaf h.oo hk (by simp),h.dj,h.hh.kp hk (by simp) (by simp),h.cl,h.oth,h.wfr,h.one,h.st,h.th,h.bl.trans (hk.below h.bl.size (by simp)),h.lb,Nat.le_trans h.bs hk.size,h.ck,h.fb,h.nx,h.nd,h.len⟩
theorem J.thing(h:J X w g m R){a b:Cl}(hab:zI R a b)(hp:a.p=true):b.p=true/\∃ t u,zO g.first g.ts a.n=some t/\m.D b.n=some u/\ThIso R t u:=by
 obtain⟨h1,_,h3⟩:=hab
 exact⟨by rw[<-h1];exact hp,h.th _ _ (h3 hp)⟩
theorem J.pget(h:J X w g m R):∀ wx,Kp [] w wx->∀ x t,zO g.first g.ts x=some t->
  (Calls Tryz.prog 96 #[.pointer (some ⟨X.hp,0,none⟩),.int .i64 x] wx fun e w'=>e=.returned (.int .i64 t.kind)/\Kp [] w w')/\
  (Calls Tryz.prog 78 #[.pointer (some ⟨X.hp,0,none⟩),.int .i64 x] wx fun e w'=>e=.returned (.int .i64 t.tag)/\Kp [] w w')/\
  (Calls Tryz.prog 76 #[.pointer (some ⟨X.hp,0,none⟩),.int .i64 x] wx fun e w'=>e=.returned (.int .i64 (t.fs.length:Nat))/\Kp [] w w')/\
  ∀ i (hi:i < t.fs.length),Calls Tryz.prog 82 #[.pointer (some ⟨X.hp,0,none⟩),.int .i64 x,.int .i64 (i:Nat)] wx fun e w'=>e=.returned (t.fs[i]'hi).val/\Kp [] w w':=by
 intro wx hx x t hat
 have ht:=h.oth t (zg3 hat)
 obtain⟨p,cap,hv,hA,_⟩:=h.hh.at
 obtain⟨l,r,hl,rfl⟩:=zed _ _ _ hat
 rw[hl] at hA
 have hd:=zrc (fun _=>0) g.first l t r
 have hAx:=hA.kp hx
 refine⟨?_,?_,?_,fun i hi=>?_⟩
 ·exact cM (zth wx X.hp 0 X.cells g.first p cap _ hAx (total l) _ hd (by obtain⟨h1,h2,_⟩:=ht;simp only[hdw];omega)) (fun e w' q=>⟨q.1,hx.trans (Kp.zB q.2)⟩)
 ·exact cM (zvb wx X.hp 0 X.cells g.first p cap _ hAx (total l) _ hd (by obtain⟨_,_,h1,h2,_⟩:=ht;simp only[hdw];omega)) (fun e w' q=>⟨q.1,hx.trans (Kp.zB q.2)⟩)
 ·exact cM (zv4 wx X.hp 0 X.cells g.first p cap _ hAx (total l) _ hd) (fun e w' q=>⟨q.1,hx.trans (Kp.zB q.2)⟩)
 ·refine cM (zwb wx X.hp 0 X.cells g.first p cap _ hAx (total l) _ hd i (by simp only[hdw];omega) _ (zwg (fun _=>0) g.first l t r i hi)) ?_
  rintro e w' ⟨rfl,hw⟩
  exact⟨by rw[zxp],hx.trans (Kp.zB hw)⟩
end
end Go.Proofs.YtkcmachfagcnaaaGreatDoor
namespace Go.Proofs.YtkcmachfagcnaaaGreatDoor
open Go.RowKit Go.Deep Go.IntWalk
open C12 (Cd Fn In zT)
section
variable{X:Fx}{w:World}{g:Pg}{m:AM}{R:Int->Int->Prop}
theorem zcu(c:Cal):(calV c).length=9:=rfl
theorem zcv{α:Type} [Inhabited α]{l:List α}(h:0 < l.length):(l.getLast?).getD default=l[l.length - 1]'(by omega):=by
 rw[List.getLast?_eq_getElem?,gE (by omega)]
 rfl
theorem J.curAt(h:J X w g m R)(hn:0 < g.s.cA.length):∃ gc cap,g.vc=.slice (some ⟨gc,0,none⟩) g.s.cA.length cap/\∀ wx,Kp [] w wx->(wx.cell? ⟨X.mm,30,none⟩=some (.slice (some ⟨gc,0,none⟩) g.s.cA.length cap)/\X.mm < wx.heap.size)/\(∀ j,j < 9->wx.cell? ⟨gc,(g.s.cA.length - 1) * 9+j,none⟩=(calV g.s.cur)[j]?)/\gc < wx.heap.size:=by
 rcases zbg h.oc with⟨_,h0⟩ | ⟨gc,cap,cur,hv,hb,hh,hc,_,hs,hx⟩
 ·omega
 ·refine⟨gc,cap,hv,fun wx hk=>?_⟩
  have hb1:=(h.box.kp hk (by simp)).rows
  have hh1:=(hk.block gc (sz hh) (by simp)).trans hh
  refine⟨⟨by rw[<-hv];exact hb1.1,hb1.2.2.2.2⟩,fun j hj=>?_,(sz hh1)⟩
  have e:=zcr calV 9 zcu g.s.cA (g.s.cA.length - 1) (by omega) j hj
  unfold St.cur
  rw[zcv hn,<-e]
  have:=hx ((g.s.cA.length - 1) * 9+j) (by omega)
  rw[show zd2 g.s.cA=g.s.cA.flatMap calV from rfl] at this
  rw[<-this]
  simp only[World.cell?,hh1]
  rfl
theorem zbw(h:J X w g m R)(hn:0 < g.s.cA.length){gc cap:Nat}(hc:∀ wx,Kp [] w wx->wx.cell? ⟨X.mm,30,none⟩=some (.slice (some ⟨gc,0,none⟩) g.s.cA.length cap)/\X.mm < wx.heap.size):∀ wx,Kp [] w wx->Calls Tryz.prog 26 #[.pointer (some ⟨X.mm,0,none⟩)] wx fun e w'=>e=.returned (.pointer (some ⟨gc,(g.s.cA.length - 1) * 9,none⟩))/\Kp [] w w':=by
 intro wx hk
 obtain⟨c0,c1⟩:=hc wx hk
 have hl:=h.len.1
 obtain⟨n,hn1⟩:∃ n,g.s.cA.length=n+1:=⟨g.s.cA.length - 1,by omega⟩
 rw[hn1] at c0 ⊢
 have hw:IntKind.i64.wrap (((n+1:Nat):Int) - 1)=(n:Int):=by rw[IntKind.wrap_i64];omega
 have hlt:(n:Int) < ((n+1:Nat):Int):=by omega
 have Q:Hid _:=fun q=>hk.trans (kr.drewN q)
 simp only[Nat.add_sub_cancel]
 generalize hN:n+1=N at *
 clear h hc hk hn1 hn hN
 go_enter Tryz.func26,Tryz.ntmps26
 go_wp2_with fail
 go_quiet (fail)
 go_wp2
 exact bR (by simp[results,Tryz.results26,go_sem]) ⟨rfl,Q.o _⟩
theorem J.valAt(h:J X w g m R)(k:Nat)(hk:k < g.s.vA.length):∃ gv cap,g.vv=.slice (some ⟨gv,0,none⟩) g.s.vA.length cap/\∀ wx,Kp [] w wx->wx.cell? ⟨gv,(g.s.vA.length - 1 - k) * 2,none⟩=some (.bool (g.s.top k).p)/\wx.cell? ⟨gv,(g.s.vA.length - 1 - k) * 2+1,none⟩=some (.int .i64 (g.s.top k).n)/\gv < wx.heap.size:=by
 rcases zbg h.ov with⟨_,h0⟩ | ⟨gv,cap,cur,hv,hb,hh,hc,_,hs,hx⟩
 ·omega
 ·refine⟨gv,cap,hv,fun wx hkx=>?_⟩
  have hh1:=(hkx.block gv (sz hh) (by simp)).trans hh
  have e0:=zbh g.s.vA (g.s.vA.length - 1 - k) (by omega) 0 (by omega)
  have e1:=zbh g.s.vA (g.s.vA.length - 1 - k) (by omega) 1 (by omega)
  have x0:=hx ((g.s.vA.length - 1 - k) * 2+0) (by omega)
  have x1:=hx ((g.s.vA.length - 1 - k) * 2+1) (by omega)
  have et:g.s.top k=g.s.vA[g.s.vA.length - 1 - k]'(by omega):=by
   unfold St.top
   rw[gE (by omega)]
   rfl
  rw[et]
  rw[e0] at x0
  rw[e1] at x1
  refine⟨?_,?_,(sz hh1)⟩
  ·simp only[World.cell?,hh1]
   exact x0
  ·simp only[World.cell?,hh1]
   exact x1
theorem zq1(h:J X w g m R)(hn:0 < g.s.cA.length)(hv:g.s.cur.vb<=g.s.vA.length):∀ wx,Kp [] w wx->Calls Tryz.prog 47 #[.pointer (some ⟨X.mm,0,none⟩)] wx fun e w'=>e=.returned (.int .i64 (g.s.has:Nat))/\Kp [] w w':=by
 intro w0 hk0
 obtain⟨gc,cap,hvc,hcur⟩:=h.curAt hn
 have HI:Hid (∀ wx,Kp [] w wx->_):=zbw h hn (fun wx hx=>(hcur wx hx).1)
 have HF:Hid (∀ wx,Kp [] w wx->(wx.cell? ⟨X.mm,32,none⟩=some g.vv/\X.mm < wx.heap.size)/\wx.cell? ⟨gc,(g.s.cA.length - 1) * 9+7,none⟩=some (.int .i64 g.s.cur.vb)/\gc < wx.heap.size):=fun wx hx=>by
  have hb1:=(h.box.kp hx (by simp)).rows
  obtain⟨_,h2,h3⟩:=hcur wx hx
  exact⟨⟨hb1.2.2.1,hb1.2.2.2.2⟩,h2 7 (by omega),h3⟩
 obtain⟨qv,cv,hvv⟩:∃ q c,g.vv=.slice q g.s.vA.length c:=by
  rcases zbg h.ov with⟨e1,e2⟩ | ⟨gv,cap,cur,e1,_⟩
  ·exact⟨none,0,by rw[e1,e2]⟩
  ·exact⟨_,_,e1⟩
 rw[hvv] at HF
 have hl:=h.len.2.2.1
 have hw:IntKind.i64.wrap ((g.s.vA.length:Int) - (g.s.cur.vb:Int))=(g.s.has:Int):=by
  unfold St.has
  rw[IntKind.wrap_i64]
  omega
 have HK0:=zh hk0.drew
 clear h hcur hvc hvv hv hl hn hk0
 generalize g.s.cur.vb=vb at *
 generalize g.s.has=hs at *
 generalize g.s.vA.length=vl at *
 generalize (g.s.cA.length - 1) * 9=co at *
 go_enter Tryz.func47,Tryz.ntmps47
 go_upto_region 1 with fail
 refine zac (C:=fun wx=>Kp [] w wx) (by kernel_rfl) (by kernel_rfl) HK0.o ?_
 repeat
  refine wpQuiet_step (fun K hK=>?_)
  first
   | (go_simp;refine hK _ ?_;clear hK K)
   | (rw[if_pos (by rfl)];apply Exists.intro;refine⟨fun wx hwx=>?_,hK _ ?_⟩;(obtain⟨⟨f0,f1⟩,f2,f3⟩:=HF.o wx hwx;unfold Oper.quietAt;go_simp <;> first | rfl | exact⟨rfl,rfl⟩ | exact HI.o _ hwx);clear hK K;go_simp)
 refine wpQuiet_nil ?_
 intro w1 hw1
 have Q:=zh hw1
 clear hw1
 go_wp2
 exact bR (by simp[results,Tryz.results47,go_sem]) ⟨rfl,Q.o⟩
theorem zbc(h:J X w g m R)(k:Nat)(hk:k < g.s.vA.length):∀ wx,Kp [] w wx->Calls Tryz.prog 49 #[.pointer (some ⟨X.mm,0,none⟩),.int .i64 k] wx fun e w'=>e=.returned (g.s.top k).val/\Kp [] w w':=by
 intro w0 hk0
 obtain⟨gv,cap,hvv,hval⟩:=h.valAt k hk
 have hl:=h.len.2.2.1
 have hb1:=(h.box.kp hk0 (by simp)).rows
 have c2:w0.cell? ⟨X.mm,32,none⟩=some (.slice (some ⟨gv,0,none⟩) g.s.vA.length cap):=by rw[<-hvv];exact hb1.2.2.1
 have cl:=hb1.2.2.2.2
 obtain⟨v0,v1,vl⟩:=hval w0 hk0
 have hw1:IntKind.i64.wrap ((g.s.vA.length:Int) - 1)=((g.s.vA.length - 1:Nat):Int):=by rw[IntKind.wrap_i64];omega
 have hw2:IntKind.i64.wrap (((g.s.vA.length - 1:Nat):Int) - (k:Int))=((g.s.vA.length - 1 - k:Nat):Int):=by rw[IntKind.wrap_i64];omega
 have hlt:((g.s.vA.length - 1 - k:Nat):Int) < (g.s.vA.length:Int):=by omega
 have Q:Hid (∀ o,Kp [] w (w0.alloc o).drew):=fun o=>(hk0.trans kA).drew
 clear h hval hvv hb1 hl hk hk0
 unfold Cl.val
 generalize g.s.top k=c at *
 generalize g.s.vA.length - 1 - k=i at *
 generalize g.s.vA.length - 1=j at *
 generalize g.s.vA.length=n at *
 obtain⟨cp,cn⟩:=c
 simp only at v0 v1
 go_enter Tryz.func49,Tryz.ntmps49
 go_upto_region 1 with fail
 go_region
 go_wp2
 exact bR (by simp[results,Tryz.results49,go_sem]) ⟨rfl,Q.o _⟩
end
end Go.Proofs.YtkcmachfagcnaaaGreatDoor
