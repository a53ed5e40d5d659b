/- Part of Greater. -/
import Derived.Lib.Strings
import Derived.Laws.IdiomStrings
import Derived.Lib.AppendStr
import Derived.Laws.BytesArg
import Derived.Laws.StructEq
import Derived.Laws.MakeOwn
import Derived.Test.YtkcmachfagcnaaaGreatDoorB00
set_option maxHeartbeats 8000000
set_option maxRecDepth 100000
namespace Go.Proofs.YtkcmachfagcnaaaGreatDoor.C12
open Go.RowKit Go.Deep
theorem Below.then{B:Nat}{a b c:World}(h:Below B a b)(k:Below b.heap.size b c)(hB:B<=a.heap.size):Below B a c:=h.trans (k.mono (Nat.le_trans hB h.size))
def formT:List (List UInt8):=[[105],[110],[110],[],[110],[110],[110],[110,110],[110],[105],[110],[],[110],[110],[110,110],[],[],[],[110],[110],[110],[],[],[110,110],[110],[]]
def form(op:Int):List UInt8:=if op < 0 then [] else(formT[op.toNat]?).getD []
def isOp(op:Int):Bool:=decide (0<=op) && decide (op<=25)
theorem ops(op:Int)(h:0<=op/\op<=25):op=0\/op=1\/op=2\/op=3\/op=4\/op=5\/op=6\/op=7\/op=8\/op=9\/op=10\/op=11\/op=12\/op=13\/op=14\/op=15\/op=16\/op=17\/op=18\/op=19\/op=20\/op=21\/op=22\/op=23\/op=24\/op=25:=by omega
theorem zmo{op:Int}(h:¬ (0<=op/\op<=25)):form op=[]/\isOp op=false:=by
 constructor
 ·unfold form
  split
  ·rfl
  ·rw[List.getElem?_eq_none (by simp[formT];omega)]
   rfl
 ·unfold isOp
  by_cases h1:0<=op
  ·have h2:¬ op<=25:=by omega
   simp[h2]
  ·simp[h1]
def bigR:Nat->Int->List UInt8->List UInt8
 | 0,_,s=>s
 | k+1,v,s=>bigR k (v / 256) (UInt8.ofNat (v % 256).toNat :: s)
def big(v:Int)(n:Nat):List UInt8:=bigR n v []
theorem zmy:∀ (n:Nat) (v:Int) (s:List UInt8),(bigR n v s).length=n+s.length
 | 0,_,s=>by simp[bigR]
 | k+1,v,s=>by
  rw[bigR,zmy k]
  simp
  omega
theorem zay(v:Int)(n:Nat):(big v n).length=n:=by rw[big,zmy];rfl
def isTwo(v:Int):Bool:=decide (0<=v) && decide (v<=65535)
structure In where
 op:Int
 a:Int
 b:Int
instance:Inhabited In:=⟨⟨0,0,0⟩⟩
def In.arg(x:In)(i:Nat):Int:=if i=0 then x.a else x.b
def argOk(f:List UInt8)(i:Nat)(a:Int):Bool:=match f[i]? with
 | none=>decide (a=0)
 | some c=>if c=105 then decide (-1000000000<=a) && decide (a<=1000000000) else isTwo a
def argB(f:List UInt8)(i:Nat)(a:Int):List UInt8:=match f[i]? with
 | none=>[]
 | some c=>if c=105 then big a 4 else big a 2
def In.st(x:In):Nat->List UInt8×Bool
 | 0=>(big x.op 1,isOp x.op)
 | i+1=>if(x.st i).2=true then((x.st i).1++argB (form x.op) i (x.arg i),argOk (form x.op) i (x.arg i)) else x.st i
def In.bytes(x:In):List UInt8:=(x.st 2).1
def In.ok(x:In):Bool:=(x.st 2).2
theorem zob(op:Int):form op=[]\/form op=[105]\/form op=[110]\/form op=[110,110]:=by
 by_cases h:0<=op/\op<=25
 ·rcases ops op h with rfl | rfl | rfl | rfl | rfl | rfl | rfl | rfl | rfl | rfl | rfl | rfl | rfl | rfl | rfl | rfl | rfl | rfl | rfl | rfl | rfl | rfl | rfl | rfl | rfl | rfl <;> simp[form,formT]
 ·exact .inl (zmo h).1
theorem zuq(f:List UInt8)(i:Nat)(a:Int):(argB f i a).length<=4:=by
 unfold argB
 split
 ·simp
 ·split <;> rw[zay] <;> omega
theorem In.st_len(x:In):∀ i,(x.st i).1.length<=1+4 * i
 | 0=>by simp[In.st,zay]
 | i+1=>by
  have h:=x.st_len i
  have h2:=zuq (form x.op) i (x.arg i)
  unfold In.st
  split
  ·simp
   omega
  ·omega
theorem In.bytes_len(x:In):x.bytes.length<=9:=x.st_len 2
theorem In.st_stop(x:In){i:Nat}(h:(x.st i).2=false)(hi:i<=2):x.st i=x.st 2:=by
 have h1:∀ j,(x.st j).2=false->x.st (j+1)=x.st j:=fun j hj=>by
  rw[In.st,if_neg (by simp[hj])]
 match i,hi with
 | 0,_=>
  have e1:=h1 0 h
  rw[h1 1 (by rw[e1];exact h),e1]
 | 1,_=>rw[h1 1 h]
 | 2,_=>rfl
structure Fn where
 free:Int
 sA:Int
 ins:List In
instance:Inhabited Fn:=⟨⟨0,0,[]⟩⟩
structure Cd where
 texts:List ByteArray
 funs:List Fn
def textB(t:ByteArray):List UInt8:=big t.size 1++t.data.toList
def zbi(t:ByteArray):Bool:=decide ((t.size:Int)<=200)
def Fn.bytes(f:Fn):List UInt8:=big f.free 2++(big f.sA 2++(big f.ins.length 2++f.ins.flatMap In.bytes))
def Fn.ok(f:Fn):Bool:=isTwo f.free && (isTwo f.sA && (isTwo f.ins.length && f.ins.all In.ok))
def Cd.bytes(c:Cd):List UInt8:=[77,76,49]++(big c.texts.length 2++(c.texts.flatMap textB++(big c.funs.length 2++c.funs.flatMap Fn.bytes)))
def Cd.ok(c:Cd):Bool:=isTwo c.texts.length && (c.texts.all zbi && (isTwo c.funs.length && c.funs.all Fn.ok))
def Cd.enc(c:Cd):List UInt8×Int:=if c.ok=true then(if c.bytes.length > 4000000 then([],1) else(c.bytes,0)) else([],17)
structure zX(w:World)(p:Option Addr)(ts:List ByteArray):Prop where
 len:ts.length<=2 ^ 63 - 1
 get:∀ i (hi:i < ts.length),∃ b o,p=some ⟨b,o,none⟩/\b < w.heap.size/\w.cell? ⟨b,o+i,none⟩=some (.string (ts[i]'hi))
structure InsIn(w:World)(p:Option Addr)(l:List In):Prop where
 len:l.length<=2 ^ 63 - 1
 get:∀ i (hi:i < l.length),∃ b o,p=some ⟨b,o,none⟩/\b < w.heap.size/\w.cell? ⟨b,o+i * 3,none⟩=some (.int .i64 (l[i]'hi).op)/\w.cell? ⟨b,o+i * 3+1,none⟩=some (.int .i64 (l[i]'hi).a)/\w.cell? ⟨b,o+i * 3+2,none⟩=some (.int .i64 (l[i]'hi).b)
structure FnCells(w:World)(b o:Nat)(f:Fn)(q:Option Addr)(cap:Nat):Prop where
 c0:w.cell? ⟨b,o,none⟩=some (.int .i64 f.free)
 c1:w.cell? ⟨b,o+1,none⟩=some (.int .i64 f.sA)
 c2:w.cell? ⟨b,o+2,none⟩=some (.slice q f.ins.length cap)
structure zF(w:World)(p:Option Addr)(fs:List Fn):Prop where
 len:fs.length<=2 ^ 63 - 1
 get:∀ i (hi:i < fs.length),∃ b o q cap,p=some ⟨b,o,none⟩/\b < w.heap.size/\FnCells w b (o+i * 3) (fs[i]'hi) q cap/\InsIn w q (fs[i]'hi).ins
theorem zX.below{w w':World}{p:Option Addr}{ts:List ByteArray}(h:zX w p ts)(hb:Below w.heap.size w w'):zX w' p ts:=
 ⟨h.len,fun i hi=>by
  obtain⟨b,o,h1,h2,h3⟩:=h.get i hi
  exact⟨b,o,h1,lL h2 hb.size,(hb.cell (p:=⟨b,o+i,none⟩) h2).trans h3⟩⟩
theorem InsIn.below{w w':World}{p:Option Addr}{l:List In}(h:InsIn w p l)(hb:Below w.heap.size w w'):InsIn w' p l:=
 ⟨h.len,fun i hi=>by
  obtain⟨b,o,h1,h2,h3,h4,h5⟩:=h.get i hi
  exact⟨b,o,h1,lL h2 hb.size,(hb.cell (p:=⟨b,o+i * 3,none⟩) h2).trans h3,(hb.cell (p:=⟨b,o+i * 3+1,none⟩) h2).trans h4,(hb.cell (p:=⟨b,o+i * 3+2,none⟩) h2).trans h5⟩⟩
theorem FnCells.below{w w':World}{b o:Nat}{f:Fn}{q:Option Addr}{cap:Nat}(h:FnCells w b o f q cap)(h2:b < w.heap.size)(hb:Below w.heap.size w w'):FnCells w' b o f q cap:=
 ⟨(hb.cell (p:=⟨b,o,none⟩) h2).trans h.c0,(hb.cell (p:=⟨b,o+1,none⟩) h2).trans h.c1,(hb.cell (p:=⟨b,o+2,none⟩) h2).trans h.c2⟩
theorem zF.below{w w':World}{p:Option Addr}{fs:List Fn}(h:zF w p fs)(hb:Below w.heap.size w w'):zF w' p fs:=
 ⟨h.len,fun i hi=>by
  obtain⟨b,o,q,cap,h1,h2,h3,h4⟩:=h.get i hi
  exact⟨b,o,q,cap,h1,lL h2 hb.size,h3.below h2 hb,h4.below hb⟩⟩
def CBox(w:World)(b:Nat)(p:Option Addr)(n cap:Nat)(p':Option Addr)(n' cap':Nat):Prop:=w.heap[b]? = some (.cells #[.slice p n cap,.slice p' n' cap'] 25)
theorem CBox.below{w w':World}{b:Nat}{p:Option Addr}{n cap:Nat}{p':Option Addr}{n' cap':Nat}(h:CBox w b p n cap p' n' cap')(hb:Below w.heap.size w w'):CBox w' b p n cap p' n' cap':=(hb.block b (sz h)).trans h
theorem CBox.cells{w:World}{b:Nat}{p:Option Addr}{n cap:Nat}{p':Option Addr}{n' cap':Nat}(h:CBox w b p n cap p' n' cap'):w.cell? ⟨b,0,none⟩=some (.slice p n cap)/\w.cell? ⟨b,1,none⟩=some (.slice p' n' cap')/\b < w.heap.size:=by
 have h2:=(sz h)
 unfold CBox at h
 refine⟨?_,?_,h2⟩ <;> simp[World.cell?,h]
def FBox(w:World)(b:Nat)(f:Fn)(q:Option Addr)(cap:Nat):Prop:=w.heap[b]? = some (.cells #[.int .i64 f.free,.int .i64 f.sA,.slice q f.ins.length cap] 47)
theorem FBox.below{w w':World}{b:Nat}{f:Fn}{q:Option Addr}{cap:Nat}(h:FBox w b f q cap)(hb:Below w.heap.size w w'):FBox w' b f q cap:=(hb.block b (sz h)).trans h
theorem FBox.cells{w:World}{b:Nat}{f:Fn}{q:Option Addr}{cap:Nat}(h:FBox w b f q cap):w.cell? ⟨b,0,none⟩=some (.int .i64 f.free)/\w.cell? ⟨b,1,none⟩=some (.int .i64 f.sA)/\w.cell? ⟨b,2,none⟩=some (.slice q f.ins.length cap)/\b < w.heap.size:=by
 have h2:=(sz h)
 unfold FBox at h
 refine⟨?_,?_,?_,h2⟩ <;> simp[World.cell?,h]
def byteCells(l:List UInt8):List Value:=l.map fun b=>.int .u8 b.toNat
theorem zd1(l r:List UInt8):byteCells (l++r)=byteCells l++byteCells r:=by simp[byteCells]
theorem zju:(Tryz.prog.info? 5).map (fun i=>(i.zero,i.size,i.bytes))=some (some (.int .u8 0),1,1):=by kernel_rfl
theorem zap{t:TypeId}{z:Option Value}{n b:Nat}(h:(Tryz.prog.info? t).map (fun i=>(i.zero,i.size,i.bytes))=some (z,n,b)):∃ i,Tryz.prog.info? t=some i/\i.zero=z/\i.size=n/\i.bytes=b:=by
 cases hi:Tryz.prog.info? t with
 | none=>rw[hi] at h;cases h
 | some i=>
  rw[hi] at h
  simp only[Option.map_some,Option.some.injEq,Prod.mk.injEq] at h
  exact⟨i,rfl,h.1,h.2.1,h.2.2⟩
theorem zgo{w:World}{base:Nat}{v:Value}{l:List UInt8}(h:w.ownsRow base 5 1 v l.length (byteCells l)):(convert 62 9 v).run Tryz.prog w=.ok (.string {data:=l.toArray}) w:=by
 rcases h.2 with⟨rfl,h0⟩ | ⟨g,cap,cur,rfl,h1,h2,h3,h4,h5,h6⟩
 ·have:l=[]:=List.eq_nil_of_length_eq_zero h0
  subst this
  have:=run_convert_bytes_nil (P:=Tryz.prog) w 62 5 Tryz.underlying62 Tryz.underlying5 0 0 9 Tryz.underlying9
  exact this
 ·refine run_convert_bytes_back (P:=Tryz.prog) w 62 9 5 ⟨g,0,none⟩ cap l Tryz.underlying62 Tryz.underlying5 Tryz.underlying9 ?_
  intro j hj
  have hc:=h.cellAt j (by omega)
  have e:(⟨g,0,none⟩:Addr).add j=⟨g,j,none⟩:=by unfold Addr.add;split <;> simp_all
  rw[e]
  rw[hc]
  simp[byteCells,hj]
theorem zdh{α:Type}(g:α->List UInt8)(l:List α)(i:Nat)(hi:i < l.length):(l.drop i).flatMap g=g (l[i]'hi)++(l.drop (i+1)).flatMap g:=by
 rw[List.drop_eq_getElem_cons hi,List.flatMap_cons]
theorem zct{α:Type}(g:α->Bool)(l:List α)(i:Nat)(hi:i < l.length):(l.drop i).all g=(g (l[i]'hi) && (l.drop (i+1)).all g):=by
 rw[List.drop_eq_getElem_cons hi,List.all_cons]
theorem zbk{α:Type}(l:List α)(i:Nat)(hi:¬ i < l.length):l.drop i=[]:=List.drop_eq_nil_of_le (by omega)
def opOk(nt nf:Nat)(f:Fn)(x:In)(main:Bool):Bool:=
 if x.op=1 then decide (x.a < nt) else if x.op=2 then decide (x.a < 12) else if x.op=3 then !main else if x.op=4 then decide (x.a < f.free) else if x.op=5\/x.op=6\/x.op=14 then decide (x.a < f.sA)
 else if x.op=7 then decide (0 < x.b) else if x.op=12 then decide (x.a < 15) else if x.op=13 then decide (0 < x.a) && decide (x.a < nf) else if x.op=23 then decide (x.a < nt) && decide (x.b < 2) else if x.op=24 then decide (x.a < 6) else true
def zR(nt nf:Nat)(f:Fn)(x:In)(main:Bool):Int:=if(x.op=18\/x.op=19\/x.op=20)/\(f.ins.length:Int)<=x.a then 19 else if opOk nt nf f x main=true then 0 else 17
def zT(fs:List Fn)(x:In):Int:=
 if x.op=6\/x.op=14\/x.op=17\/x.op=19\/x.op=22\/x.op=25\/x.op=8\/x.op=9\/x.op=10 then 1 else if x.op=7 then x.b else if x.op=13 then((fs[x.a.toNat]?).getD default).free else if x.op=11\/x.op=15\/x.op=16 then 2 else if x.op=12 then(if x.a=12\/x.a=14 then 1 else 2) else 0
def putsP(x:In):Int:=if x.op=6\/x.op=14\/x.op=17\/x.op=19\/x.op=22\/x.op=25\/x.op=16\/x.op=18\/x.op=20\/x.op=21 then 0 else 1
structure Rs where
 pos:Nat
 kind:Int
 fat:Int
def zbb(S:ByteArray)(i:Nat):UInt8:=(S.data.toList[i]?).getD 0
def numAt(S:ByteArray)(pos:Nat):Nat->Int
 | 0=>0
 | i+1=>256 * numAt S pos i+(zbb S (pos+i)).toNat
theorem zch(S:ByteArray)(pos:Nat):∀ i,0<=numAt S pos i/\numAt S pos i < 256 ^ i
 | 0=>by simp[numAt]
 | i+1=>by
  have h:=zch S pos i
  have h2:=(zbb S (pos+i)).toNat_lt
  rw[numAt,Int.pow_succ]
  omega
def Rs.num(S:ByteArray)(n:Nat)(r:Rs):Int×Rs:=if r.kind=0 then(if(S.size:Int) - r.pos < n then(0,⟨r.pos,16,S.size⟩) else(numAt S r.pos n,⟨r.pos+n,0,r.fat⟩)) else(0,r)
theorem zrs(S:ByteArray)(i j:Nat)(hj:j < S.size)(h:i=j):zbb S i=S[j]'hj:=by
 subst h
 unfold zbb
 rw[gE (by rw[Array.length_toList];exact hj)]
 rfl
structure Sn where
 is:Bool
 vals:Int
 tA:Int
deriving DecidableEq
instance:Inhabited Sn:=⟨⟨false,0,0⟩⟩
def toldP(L:List Sn)(i:Nat)(s:Sn)(fr:Int):Bool×List Sn:=if((L[i]?).getD default).is=true then(decide ((L[i]?).getD default=s),L) else(decide (fr < i),L.set i s)
def nextP(fs:List Fn)(x:In)(s:Sn):Sn:=⟨true,s.vals - zT fs x+putsP x,if x.op=20 then s.tA+1 else if x.op=21 then s.tA - 1 else s.tA⟩
def jumpP(fs:List Fn)(x:In)(s:Sn):Sn:=⟨true,s.vals - zT fs x+putsP x+(if x.op=20 then 1 else 0),s.tA⟩
def mayP(fs:List Fn)(x:In)(s:Sn):Bool:=
 s.is && (decide (zT fs x<=s.vals) && ((if x.op=17\/x.op=16 then decide (s.vals=zT fs x) && decide (s.tA=0) else true) && (decide (0<=(nextP fs x s).tA) && (decide ((nextP fs x s).vals<=5000) && decide ((jumpP fs x s).vals<=5000)))))
def flowJ(fs:List Fn)(x:In)(i:Nat)(L:List Sn):Bool×List Sn:=if mayP fs x ((L[i]?).getD default)=true then(if x.op=18\/x.op=19\/x.op=20 then toldP L x.a.toNat (jumpP fs x ((L[i]?).getD default)) i else(true,L)) else(false,L)
def flowP(fs:List Fn)(x:In)(i:Nat)(L:List Sn):Bool×List Sn:=if(flowJ fs x i L).1=true then(if x.op=18\/x.op=17\/x.op=16\/x.op=22 then flowJ fs x i L else toldP (flowJ fs x i L).2 (i+1) (nextP fs x ((L[i]?).getD default)) i) else(false,(flowJ fs x i L).2)
def zFF(fs:List Fn):List In->Nat->List Sn->Int×Int
 | [],i,L=>if((L[i]?).getD default).is=true then(20,i) else(0,0)
 | x :: r,i,L=>if(flowP fs x i L).1=true then zFF fs r (i+1) (flowP fs x i L).2 else(20,i)
def zOF(nt nf:Nat)(f:Fn)(main:Bool):List In->Nat->Option (Int×Int)
 | [],_=>none
 | x :: r,i=>if zR nt nf f x main=0 then zOF nt nf f main r (i+1) else some (zR nt nf f x main,i)
def zbt(n:Nat):List Sn:=⟨true,0,0⟩ :: List.replicate n ⟨false,0,0⟩
def funP(nt:Nat)(fs:List Fn)(f:Fn)(main:Bool):Int×Int:=match zOF nt fs.length f main f.ins 0 with
 | some r=>r
 | none=>zFF fs f.ins 0 (zbt f.ins.length)
theorem zre(nt nf:Nat)(f:Fn)(main:Bool)(l:List In)(i:Nat)(hi:i < l.length):zOF nt nf f main (l.drop i) i=(if zR nt nf f (l[i]'hi) main=0 then zOF nt nf f main (l.drop (i+1)) (i+1) else some (zR nt nf f (l[i]'hi) main,i)):=by
 rw[List.drop_eq_getElem_cons hi,zOF]
theorem zdr(nt nf:Nat)(f:Fn)(main:Bool):∀ (l:List In) (i:Nat),zOF nt nf f main l i=none->∀ x∈l,zR nt nf f x main=0
 | [],_,_,x,hx=>by cases hx
 | y :: r,i,h,x,hx=>by
  rw[zOF] at h
  split at h
  ·rename_i h0
   rcases List.mem_cons.1 hx with rfl | hx
   ·exact h0
   ·exact zdr nt nf f main r (i+1) h x hx
  ·cases h
theorem zrf(fs:List Fn)(l:List In)(i:Nat)(hi:i < l.length)(L:List Sn):zFF fs (l.drop i) i L=(if(flowP fs (l[i]'hi) i L).1=true then zFF fs (l.drop (i+1)) (i+1) (flowP fs (l[i]'hi) i L).2 else(20,i)):=by
 rw[List.drop_eq_getElem_cons hi,zFF]
def LOk(L:List Sn)(i:Nat):Prop:=∀ s∈L,0<=s.vals/\s.vals<=5000/\0<=s.tA/\s.tA<=i
theorem zfq(x:In):0<=putsP x/\putsP x<=1:=by unfold putsP;split <;> omega
theorem zal{v:Int}(h:isTwo v=true):0<=v/\v<=65535:=by
 unfold isTwo at h
 simpa using h
theorem Fn.ok_parts{f:Fn}(h:f.ok=true):isTwo f.free=true/\isTwo f.sA=true/\isTwo f.ins.length=true/\∀ x∈f.ins,x.ok=true:=by
 unfold Fn.ok at h
 simpa only[Bool.and_eq_true,List.all_eq_true] using h
theorem In.ok_two{x:In}(h:x.ok=true)(hf:form x.op=[110,110]):isTwo x.a=true/\isTwo x.b=true:=by
 unfold In.ok at h
 have h1:(x.st 1).2=true:=by
  cases hc:(x.st 1).2 with
  | true=>rfl
  | false=>rw[<-x.st_stop hc (by omega),hc] at h;cases h
 have h0:(x.st 0).2=true:=by
  cases hc:(x.st 0).2 with
  | true=>rfl
  | false=>rw[In.st,if_neg (by simp[hc]),hc] at h1;cases h1
 rw[In.st,if_pos h1] at h
 rw[In.st,if_pos h0] at h1
 simp only[argOk,hf,In.arg] at h h1
 exact⟨by simpa using h1,by simpa using h⟩
theorem In.ok_one{x:In}(h:x.ok=true)(hf:form x.op=[110]):isTwo x.a=true:=by
 unfold In.ok at h
 have h1:(x.st 1).2=true:=by
  cases hc:(x.st 1).2 with
  | true=>rfl
  | false=>rw[<-x.st_stop hc (by omega),hc] at h;cases h
 have h0:(x.st 0).2=true:=by
  cases hc:(x.st 0).2 with
  | true=>rfl
  | false=>rw[In.st,if_neg (by simp[hc]),hc] at h1;cases h1
 rw[In.st,if_pos h0] at h1
 simp only[argOk,hf,In.arg] at h1
 simpa using h1
theorem zgq{nt nf:Nat}{f:Fn}{x:In}{main:Bool}(h:zR nt nf f x main=0)(hx:x.op=13):0 < x.a/\x.a < nf:=by
 unfold zR at h
 rw[if_neg (by omega)] at h
 split at h
 ·rename_i ho
  unfold opOk at ho
  simpa [hx] using ho
 ·cases h
theorem zgr{nt nf:Nat}{f:Fn}{x:In}{main:Bool}(h:zR nt nf f x main=0)(hx:x.op=18\/x.op=19\/x.op=20):x.a < f.ins.length:=by
 unfold zR at h
 by_cases hc:(f.ins.length:Int)<=x.a
 ·rw[if_pos ⟨hx,hc⟩] at h
  cases h
 ·omega
theorem zeu{nt:Nat}{fs:List Fn}{f:Fn}{x:In}{main:Bool}(h:zR nt fs.length f x main=0)(hx:x.ok=true)(hfs:∀ g∈fs,g.ok=true):0<=zT fs x/\zT fs x<=65535:=by
 unfold zT
 split
 ·omega
 ·split
  ·rename_i h7
   exact zal (In.ok_two hx (by rw[h7];rfl)).2
  ·split
   ·rename_i h13
    obtain⟨h1,h2⟩:=zgq h h13
    have hk:x.a.toNat < fs.length:=by omega
    rw[gE hk]
    exact zal (Fn.ok_parts (hfs _ (List.getElem_mem hk))).1
   ·split
    ·omega
    ·split
     ·split <;> omega
     ·omega
theorem zja(n i:Nat):LOk (zbt n) i:=by
 intro s hs
 rcases List.mem_cons.1 hs with rfl | hs
 ·simp
 ·rw[List.eq_of_mem_replicate hs]
  simp
theorem zlw(L:List Sn)(k:Nat)(s:Sn)(fr:Int):(toldP L k s fr).2.length=L.length:=by
 unfold toldP
 split <;> simp
theorem zo1{L:List Sn}{i:Nat}(h:LOk L i)(k:Nat)(s:Sn)(fr:Int)(hs:0<=s.vals/\s.vals<=5000/\0<=s.tA/\s.tA<=i):LOk (toldP L k s fr).2 i:=by
 unfold toldP
 split
 ·exact h
 ·intro x hx
  rcases List.mem_or_eq_of_mem_set hx with hx | rfl
  ·exact h x hx
  ·exact hs
theorem LOk.mono{L:List Sn}{i j:Nat}(h:LOk L i)(hij:i<=j):LOk L j:=fun s hs=>by
 obtain⟨h1,h2,h3,h4⟩:=h s hs
 exact⟨h1,h2,h3,by omega⟩
theorem zmg{fs:List Fn}{x:In}{s:Sn}{i:Nat}(hm:mayP fs x s=true)(hs:0<=s.tA/\s.tA<=i):(0<=(nextP fs x s).vals/\(nextP fs x s).vals<=5000/\0<=(nextP fs x s).tA/\(nextP fs x s).tA<=(i+1:Nat))/\(0<=(jumpP fs x s).vals/\(jumpP fs x s).vals<=5000/\0<=(jumpP fs x s).tA/\(jumpP fs x s).tA<=(i+1:Nat)):=by
 unfold mayP at hm
 simp only[Bool.and_eq_true,decide_eq_true_eq] at hm
 obtain⟨_,h2,_,h4,h5,h6⟩:=hm
 have hp:=zfq x
 refine⟨⟨?_,h5,h4,?_⟩,?_,h6,?_,?_⟩
 ·simp only[nextP];omega
 ·simp only[nextP];split
  ·omega
  ·split <;> omega
 ·simp only[jumpP];split <;> omega
 ·exact hs.1
 ·simp only[jumpP];omega
theorem zff(fs:List Fn)(x:In)(i:Nat)(L:List Sn):(flowJ fs x i L).2.length=L.length:=by
 unfold flowJ
 split
 ·split
  ·exact zlw _ _ _ _
  ·rfl
 ·rfl
theorem zmp(fs:List Fn)(x:In)(i:Nat)(L:List Sn):(flowP fs x i L).2.length=L.length:=by
 unfold flowP
 split
 ·split
  ·exact zff _ _ _ _
  ·rw[zlw];exact zff _ _ _ _
 ·exact zff _ _ _ _
theorem zq4{fs:List Fn}{x:In}{i:Nat}{L:List Sn}(h:LOk L i)(hi:i < L.length):LOk (flowP fs x i L).2 (i+1):=by
 have hg:(L[i]?).getD default=L[i]'hi:=by simp[hi]
 have hb:=h _ (List.getElem_mem hi)
 have hJ:LOk (flowJ fs x i L).2 (i+1):=by
  unfold flowJ
  split
  ·rename_i hm
   split
   ·rw[hg] at hm ⊢
    exact zo1 (h.mono (by omega)) _ _ _ (zmg hm ⟨hb.2.2.1,hb.2.2.2⟩).2
   ·exact h.mono (by omega)
  ·exact h.mono (by omega)
 unfold flowP
 split
 ·rename_i h1
  split
  ·exact hJ
  ·have hm:mayP fs x (L[i]'hi)=true:=by
    rw[<-hg]
    unfold flowJ at h1
    split at h1
    ·assumption
    ·cases h1
   rw[hg]
   exact zo1 hJ _ _ _ (zmg hm ⟨hb.2.2.1,hb.2.2.2⟩).1
 ·exact hJ
end Go.Proofs.YtkcmachfagcnaaaGreatDoor.C12
