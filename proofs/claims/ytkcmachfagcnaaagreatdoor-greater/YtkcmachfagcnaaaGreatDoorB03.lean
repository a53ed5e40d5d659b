/- Part of Greater. -/
import Derived.Test.YtkcmachfagcnaaaGreatDoorB01
set_option maxHeartbeats 8000000
set_option maxRecDepth 100000
namespace Go.Proofs.YtkcmachfagcnaaaGreatDoor.C12
open Go.RowKit Go.Deep
def Rs.fail(r:Rs)(k pl:Int):Rs:=if r.kind=0 then⟨r.pos,k,pl⟩ else r
theorem Rs.num_range(S:ByteArray)(n:Nat)(r:Rs):0<=(r.num S n).1/\(r.num S n).1 < 256 ^ n:=by
 have h0:(0:Int) < 256 ^ n:=Int.pow_pos (by omega)
 unfold Rs.num
 split
 ·split
  ·exact⟨by simp,h0⟩
  ·exact zch S _ n
 ·exact⟨by simp,h0⟩
def signed(v:Int):Int:=if 2147483648<=v then v - 4294967296 else v
def argR(S:ByteArray)(c:UInt8)(r:Rs):Int×Rs:=
 if c=105 then(signed (r.num S 4).1,if 1000000000 < signed (r.num S 4).1\/signed (r.num S 4).1 < -1000000000 then(r.num S 4).2.fail 17 r.pos else(r.num S 4).2) else r.num S 2
def In.put(x:In)(i:Nat)(v:Int):In:=if i=0 then⟨x.op,v,x.b⟩ else⟨x.op,x.a,v⟩
def zcm(S:ByteArray):List UInt8->Nat->In×Rs->In×Rs
 | [],_,s=>s
 | c :: f,i,s=>if s.2.kind=0 then zcm S f (i+1) (s.1.put i (argR S c s.2).1,(argR S c s.2).2) else s
def zdw(S:ByteArray)(r:Rs):In×Rs:=(⟨(r.num S 1).1,0,0⟩,if isOp (r.num S 1).1=true then(r.num S 1).2 else(r.num S 1).2.fail 18 r.pos)
def insR(S:ByteArray)(r:Rs):In×Rs:=zcm S (form (r.num S 1).1) 0 (zdw S r)
def XBox(w:World)(xp:Nat)(x:In):Prop:=w.heap[xp]? = some (.cells #[.int .i64 x.op,.int .i64 x.a,.int .i64 x.b] 44)
theorem XBox.lt{w:World}{xp:Nat}{x:In}(h:XBox w xp x):xp < w.heap.size:=(sz h)
theorem XBox.kp{X:List Nat}{w w':World}{xp:Nat}{x:In}(h:XBox w xp x)(hk:Kp X w w')(hx:xp∉X):XBox w' xp x:=(hk.block xp h.lt hx).trans h
theorem XBox.cells{w:World}{xp:Nat}{x:In}(h:XBox w xp x):w.cell? ⟨xp,0,none⟩=some (.int .i64 x.op)/\w.cell? ⟨xp,1,none⟩=some (.int .i64 x.a)/\w.cell? ⟨xp,2,none⟩=some (.int .i64 x.b)/\(∀ j,w.frozen? ⟨xp,j,none⟩=false):=by
 unfold XBox at h
 refine⟨?_,?_,?_,fun j=>?_⟩ <;> simp[World.cell?,World.frozen?,h]
theorem XBox.setA{w:World}{xp:Nat}{x:In}(h:XBox w xp x)(v:Int):XBox (w.setCell ⟨xp,1,none⟩ (.int .i64 v)) xp (x.put 0 v):=by
 unfold XBox In.put at *
 simp[World.setCell,Array.getElem?_modify,h]
theorem XBox.setB{w:World}{xp:Nat}{x:In}(h:XBox w xp x)(v:Int):XBox (w.setCell ⟨xp,2,none⟩ (.int .i64 v)) xp (x.put 1 v):=by
 unfold XBox In.put at *
 simp[World.setCell,Array.getElem?_modify,h]
def zbx(nt:Nat)(fs:List Fn):List Fn->Nat->Int->Int×Int
 | [],_,_=>(0,0)
 | f :: r,i,at_=>if(funP nt fs f (decide (i=0))).1=0 then zbx nt fs r (i+1) (at_+f.ins.length) else((funP nt fs f (decide (i=0))).1,at_+(funP nt fs f (decide (i=0))).2)
def Cd.chk(c:Cd):Int×Int:=match c.funs with
 | []=>(17,0)
 | f :: _=>if 60000 < c.funs.length then(17,0) else if f.free=0 then zbx c.texts.length c.funs c.funs 0 0 else(17,0)
theorem zoh(nt:Nat)(fs l:List Fn)(i:Nat)(hi:i < l.length)(a:Int):zbx nt fs (l.drop i) i a=(if(funP nt fs (l[i]'hi) (decide (i=0))).1=0 then zbx nt fs (l.drop (i+1)) (i+1) (a+(l[i]'hi).ins.length) else((funP nt fs (l[i]'hi) (decide (i=0))).1,a+(funP nt fs (l[i]'hi) (decide (i=0))).2)):=by
 rw[List.drop_eq_getElem_cons hi,zbx]
theorem zeq(fs:List Fn):∀ (l:List In) (i:Nat) (L:List Sn),0<=(zFF fs l i L).2/\(zFF fs l i L).2<=i+l.length
 | [],i,L=>by
  rw[zFF]
  split <;> simp
 | x :: r,i,L=>by
  rw[zFF]
  split
  ·have h:=zeq fs r (i+1) (flowP fs x i L).2
   simp only[List.length_cons]
   omega
  ·simp only[List.length_cons]
   omega
theorem zep(nt nf:Nat)(f:Fn)(main:Bool):∀ (l:List In) (i:Nat) (r:Int×Int),zOF nt nf f main l i=some r->0<=r.2/\r.2<=i+l.length
 | [],i,r,h=>by cases h
 | x :: t,i,r,h=>by
  rw[zOF] at h
  split at h
  ·have h:=zep nt nf f main t (i+1) r h
   simp only[List.length_cons]
   omega
  ·cases h
   simp only[List.length_cons]
   omega
theorem zoa(nt:Nat)(fs:List Fn)(f:Fn)(main:Bool):0<=(funP nt fs f main).2/\(funP nt fs f main).2<=f.ins.length:=by
 unfold funP
 cases h:zOF nt fs.length f main f.ins 0 with
 | some r=>
  have:=zep nt fs.length f main f.ins 0 r h
  simp only
  omega
 | none=>
  have:=zeq fs f.ins 0 (zbt f.ins.length)
  simp only
  omega
def EBox(w:World)(b:Nat)(k a:Int):Prop:=w.heap[b]? = some (.cells #[.int .i64 k,.int .i64 a] 30)
theorem EBox.lt{w:World}{b:Nat}{k a:Int}(h:EBox w b k a):b < w.heap.size:=(sz h)
theorem EBox.kp{X:List Nat}{w w':World}{b:Nat}{k a:Int}(h:EBox w b k a)(hk:Kp X w w')(hx:b∉X):EBox w' b k a:=(hk.block b h.lt hx).trans h
theorem EBox.cells{w:World}{b:Nat}{k a:Int}(h:EBox w b k a):w.cell? ⟨b,0,none⟩=some (.int .i64 k)/\w.cell? ⟨b,1,none⟩=some (.int .i64 a)/\(∀ j,w.frozen? ⟨b,j,none⟩=false):=by
 unfold EBox at h
 refine⟨?_,?_,fun j=>?_⟩ <;> simp[World.cell?,World.frozen?,h]
theorem EBox.set2{w:World}{b:Nat}{k a:Int}(h:EBox w b k a)(k' a':Int):EBox ((w.setCell ⟨b,0,none⟩ (.int .i64 k')).setCell ⟨b,1,none⟩ (.int .i64 a')) b k' a':=by
 unfold EBox at *
 simp[World.setCell,Array.getElem?_modify,h]
theorem Cd.ok_parts{c:Cd}(h:c.ok=true):isTwo c.texts.length=true/\isTwo c.funs.length=true/\∀ f∈c.funs,f.ok=true:=by
 unfold Cd.ok at h
 simp only[Bool.and_eq_true,List.all_eq_true] at h
 exact⟨h.1,h.2.2.1,h.2.2.2⟩
def kindT:List Int:=[1,2,2,0,2,2,2,3,2,1,2,0,2,2,3,0,0,0,2,2,2,0,0,3,2,0]
def takeT:List Int:=[0,0,0,0,0,0,1,-1,1,1,1,2,-1,-1,1,2,2,1,0,1,0,0,1,0,0,1]
def putT:List Int:=[1,1,1,1,1,1,0,1,1,1,1,1,1,1,0,1,0,0,0,0,0,0,0,1,1,0]
def kindOf(k:Nat):Int:=(kindT[k]?).getD 0
def takeOf(k:Nat):Int:=(takeT[k]?).getD 0
def putOf(k:Nat):Int:=(putT[k]?).getD 0
def shapeCells:Array Value:=((kindT.zip (takeT.zip putT)).flatMap fun x=>[Value.int .i64 x.1,.int .i64 x.2.1,.int .i64 x.2.2]).toArray
def widthT:List Int:=[0,4,2,4]
def widthOf(k:Nat):Int:=(widthT[k]?).getD 0
def widthCells:Array Value:=(widthT.map fun x=>Value.int .i64 x).toArray
def signT:List (List UInt8):=[[43],[45],[42],[47],[37],[60],[60,61],[62],[62,61],[61],[60,62],[94],[33],[58,61],[126]]
def signCells:Array Value:=(signT.map fun l=>.string {data:=l.toArray}).toArray
structure ShIn(w:World):Prop where
 is:∃ t fr,w.heap[3]? = some (.cells shapeCells t fr)
structure WdIn(w:World):Prop where
 is:∃ t fr,w.heap[2]? = some (.cells widthCells t fr)
structure SgIn(w:World):Prop where
 is:∃ t fr,w.heap[0]? = some (.cells signCells t fr)
theorem nats26(k:Nat)(h:k < 26):k=0\/k=1\/k=2\/k=3\/k=4\/k=5\/k=6\/k=7\/k=8\/k=9\/k=10\/k=11\/k=12\/k=13\/k=14\/k=15\/k=16\/k=17\/k=18\/k=19\/k=20\/k=21\/k=22\/k=23\/k=24\/k=25:=by omega
theorem zsn(k:Nat)(h:k < 26):shapeCells[k * 3]? = some (.int .i64 (kindOf k))/\shapeCells[k * 3+1]? = some (.int .i64 (takeOf k))/\shapeCells[k * 3+2]? = some (.int .i64 (putOf k)):=by
 rcases nats26 k h with rfl | rfl | rfl | rfl | rfl | rfl | rfl | rfl | rfl | rfl | rfl | rfl | rfl | rfl | rfl | rfl | rfl | rfl | rfl | rfl | rfl | rfl | rfl | rfl | rfl | rfl <;> exact⟨rfl,rfl,rfl⟩
theorem ShIn.lt{w:World}(h:ShIn w):3 < w.heap.size:=by
 obtain⟨t,fr,h⟩:=h.is
 exact(sz h)
theorem ShIn.cells{w:World}(h:ShIn w)(k:Nat)(hk:k < 26):w.cell? ⟨3,k * 3,none⟩=some (.int .i64 (kindOf k))/\w.cell? ⟨3,k * 3+1,none⟩=some (.int .i64 (takeOf k))/\w.cell? ⟨3,k * 3+2,none⟩=some (.int .i64 (putOf k)):=by
 obtain⟨t,fr,h⟩:=h.is
 obtain⟨a,b,c⟩:=zsn k hk
 refine⟨?_,?_,?_⟩ <;> simp[World.cell?,h,a,b,c]
theorem ShIn.of_block{w w':World}(h:ShIn w)(e:w'.heap[3]? = w.heap[3]?):ShIn w':=by
 obtain⟨t,fr,h⟩:=h.is
 exact⟨⟨t,fr,e.trans h⟩⟩
theorem ShIn.below{w w':World}(h:ShIn w)(hb:Below w.heap.size w w'):ShIn w':=h.of_block (hb.block 3 h.lt)
theorem WdIn.lt{w:World}(h:WdIn w):2 < w.heap.size:=by
 obtain⟨t,fr,h⟩:=h.is
 exact(sz h)
theorem WdIn.cell{w:World}(h:WdIn w)(k:Nat)(hk:k < 4):w.cell? ⟨2,k,none⟩=some (.int .i64 (widthOf k)):=by
 obtain⟨t,fr,h⟩:=h.is
 have:k=0\/k=1\/k=2\/k=3:=by omega
 have e:widthCells[k]? = some (.int .i64 (widthOf k)):=by rcases this with rfl | rfl | rfl | rfl <;> rfl
 simp[World.cell?,h,e]
theorem WdIn.of_block{w w':World}(h:WdIn w)(e:w'.heap[2]? = w.heap[2]?):WdIn w':=by
 obtain⟨t,fr,h⟩:=h.is
 exact⟨⟨t,fr,e.trans h⟩⟩
theorem WdIn.below{w w':World}(h:WdIn w)(hb:Below w.heap.size w w'):WdIn w':=h.of_block (hb.block 2 h.lt)
theorem SgIn.lt{w:World}(h:SgIn w):0 < w.heap.size:=by
 obtain⟨t,fr,h⟩:=h.is
 exact(sz h)
theorem SgIn.of_block{w w':World}(h:SgIn w)(e:w'.heap[0]? = w.heap[0]?):SgIn w':=by
 obtain⟨t,fr,h⟩:=h.is
 exact⟨⟨t,fr,e.trans h⟩⟩
theorem SgIn.below{w w':World}(h:SgIn w)(hb:Below w.heap.size w w'):SgIn w':=h.of_block (hb.block 0 h.lt)
theorem SgIn.cell{w:World}(h:SgIn w)(k:Nat)(hk:k < 15):w.cell? ⟨0,k,none⟩=some (.string {data:=((signT[k]?).getD []).toArray}):=by
 obtain⟨t,fr,h⟩:=h.is
 have:k=0\/k=1\/k=2\/k=3\/k=4\/k=5\/k=6\/k=7\/k=8\/k=9\/k=10\/k=11\/k=12\/k=13\/k=14:=by omega
 have e:signCells[k]? = some (.string {data:=((signT[k]?).getD []).toArray}):=by rcases this with rfl | rfl | rfl | rfl | rfl | rfl | rfl | rfl | rfl | rfl | rfl | rfl | rfl | rfl | rfl <;> rfl
 simp[World.cell?,h,e]
theorem zc8{op:Int}(h:isOp op=true):∃ k:Nat,op=(k:Int)/\k < 26:=by
 unfold isOp at h
 simp at h
 exact⟨op.toNat,by omega,by omega⟩
theorem ztj{op:Int}(h:isOp op=false):¬ (0<=op/\op < 26):=by
 unfold isOp at h
 simp at h
 omega
theorem zql{k:Nat}(h:k < 26):isOp (k:Int)=true:=by
 unfold isOp
 simp
 omega
theorem zdg(k:Nat)(h:k < 26):(kindOf k=0/\form k=[])\/(kindOf k=1/\form k=[105])\/(kindOf k=2/\form k=[110])\/(kindOf k=3/\form k=[110,110]):=by
 rcases nats26 k h with rfl | rfl | rfl | rfl | rfl | rfl | rfl | rfl | rfl | rfl | rfl | rfl | rfl | rfl | rfl | rfl | rfl | rfl | rfl | rfl | rfl | rfl | rfl | rfl | rfl | rfl <;> simp[kindOf,kindT,form,formT]
theorem In.ok_both(x:In)(h:isOp x.op=true):x.ok=(argOk (form x.op) 0 x.a && argOk (form x.op) 1 x.b):=by
 unfold In.ok
 simp only[In.st,h,if_true,In.arg]
 cases argOk (form x.op) 0 x.a <;> simp
theorem In.ok_not(x:In)(h:isOp x.op=false):x.ok=false:=by
 unfold In.ok
 simp[In.st,h]
theorem In.bytes_of(x:In)(h:x.ok=true):x.bytes=big x.op 1++(argB (form x.op) 0 x.a++argB (form x.op) 1 x.b):=by
 have ho:isOp x.op=true:=by
  cases e:isOp x.op
  ·rw[x.ok_not e] at h;cases h
  ·rfl
 rw[x.ok_both ho,Bool.and_eq_true] at h
 unfold In.bytes
 simp only[In.st,ho,if_true,In.arg,h.1]
 simp
theorem In.ok_op{x:In}(h:x.ok=true):isOp x.op=true:=by
 cases e:isOp x.op
 ·rw[x.ok_not e] at h;cases h
 ·rfl
theorem zdi(a n:Int)(w:World):Calls Tryz.prog 62 #[.int .i64 a,.int .i64 n] w fun e w'=>e=.returned (.bool (decide (0<=a) && decide (a < n)))/\w'=w:=by
 by_cases h:0<=a
 ·by_cases h2:a < n
  ·rw[decide_eq_true h,decide_eq_true h2]
   go_enter Tryz.func62,Tryz.ntmps62
   go_wp2
   go_ret
   exact⟨rfl,rfl⟩
  ·rw[decide_eq_true h,decide_eq_false h2]
   go_enter Tryz.func62,Tryz.ntmps62
   go_wp2
   go_ret
   exact⟨rfl,rfl⟩
 ·rw[decide_eq_false h]
  go_enter Tryz.func62,Tryz.ntmps62
  go_wp2
  go_ret
  exact⟨rfl,rfl⟩
theorem zeb(a:Int)(w:World):Calls Tryz.prog 61 #[.int .i64 a] w fun e w'=>e=.returned (.bool (isTwo a))/\w'=w:=by
 have e:isTwo a=(decide (0<=a) && decide (a < 65536)):=by
  unfold isTwo
  congr 1
  apply decide_eq_decide.2
  omega
 have Hc:Hid _:=zdi a 65536 w
 rw[e]
 generalize (decide (0<=a) && decide (a < 65536))=c at *
 clear e
 go_enter Tryz.func61,Tryz.ntmps61
 go_wp2_with fail
 refine cM Hc.o ?_
 rintro e w1 ⟨rfl,rfl⟩
 go_wp2
 go_ret
 exact⟨rfl,rfl⟩
def isNum(a:Int):Bool:=decide (-1000000000<=a) && decide (a<=1000000000)
theorem zjs(a:Int)(w:World):Calls Tryz.prog 92 #[.int .i64 a] w fun e w'=>e=.returned (.bool (isNum a))/\w'=w:=by
 unfold isNum
 by_cases h:-1000000000<=a
 ·by_cases h2:a<=1000000000
  ·rw[decide_eq_true h,decide_eq_true h2]
   go_enter Tryz.func92,Tryz.ntmps92
   go_wp2
   go_ret
   exact⟨rfl,rfl⟩
  ·rw[decide_eq_true h,decide_eq_false h2]
   go_enter Tryz.func92,Tryz.ntmps92
   go_wp2
   go_ret
   exact⟨rfl,rfl⟩
 ·rw[decide_eq_false h]
  go_enter Tryz.func92,Tryz.ntmps92
  go_wp2
  go_ret
  exact⟨rfl,rfl⟩
def KBox(w:World)(b:Nat)(L:List Sn):Prop:=∃ cs,w.heap[b]? = some (.cells cs 179)/\cs.size=L.length * 3/\∀ i (hi:i < L.length),cs[i * 3]? = some (.bool (L[i]'hi).is)/\cs[i * 3+1]? = some (.int .i64 (L[i]'hi).vals)/\cs[i * 3+2]? = some (.int .i64 (L[i]'hi).tA)
theorem KBox.lt{w:World}{b:Nat}{L:List Sn}(h:KBox w b L):b < w.heap.size:=by
 obtain⟨cs,h1,_⟩:=h
 exact(sz h1)
theorem KBox.kp{X:List Nat}{w w':World}{b:Nat}{L:List Sn}(h:KBox w b L)(hk:Kp X w w')(hx:b∉X):KBox w' b L:=by
 have hl:=h.lt
 obtain⟨cs,h1,h2⟩:=h
 exact⟨cs,(hk.block b hl hx).trans h1,h2⟩
theorem KBox.cells{w:World}{b:Nat}{L:List Sn}(h:KBox w b L)(i:Nat)(hi:i < L.length):w.cell? ⟨b,i * 3,none⟩=some (.bool (L[i]'hi).is)/\w.cell? ⟨b,i * 3+1,none⟩=some (.int .i64 (L[i]'hi).vals)/\w.cell? ⟨b,i * 3+2,none⟩=some (.int .i64 (L[i]'hi).tA)/\(∀ j,w.frozen? ⟨b,j,none⟩=false):=by
 obtain⟨cs,h1,h2,h3⟩:=h
 obtain⟨c0,c1,c2⟩:=h3 i hi
 refine⟨?_,?_,?_,fun j=>?_⟩
 ·simp[World.cell?,h1,c0]
 ·simp[World.cell?,h1,c1]
 ·simp[World.cell?,h1,c2]
 ·simp[World.frozen?,h1]
theorem KBox.set{w:World}{b:Nat}{L:List Sn}(h:KBox w b L)(i:Nat)(hi:i < L.length)(s:Sn):KBox (((w.setCell ⟨b,i * 3,none⟩ (.bool s.is)).setCell ⟨b,i * 3+1,none⟩ (.int .i64 s.vals)).setCell ⟨b,i * 3+2,none⟩ (.int .i64 s.tA)) b (L.set i s):=by
 obtain⟨cs,h1,h2,h3⟩:=h
 refine⟨((cs.setIfInBounds (i * 3) (.bool s.is)).setIfInBounds (i * 3+1) (.int .i64 s.vals)).setIfInBounds (i * 3+2) (.int .i64 s.tA),?_,?_,?_⟩
 ·simp[World.setCell,Array.getElem?_modify,h1]
 ·simp[h2]
 ·intro j hj
  have hj':j < L.length:=by simpa using hj
  obtain⟨c0,c1,c2⟩:=h3 j hj'
  by_cases hij:i=j
  ·subst hij
   simp[Array.getElem?_setIfInBounds,h2]
   omega
  ·simp only[Array.getElem?_setIfInBounds,List.getElem_set,if_neg hij]
   refine⟨?_,?_,?_⟩
   ·rw[if_neg (by omega),if_neg (by omega),if_neg (by omega)];exact c0
   ·rw[if_neg (by omega),if_neg (by omega),if_neg (by omega)];exact c1
   ·rw[if_neg (by omega),if_neg (by omega),if_neg (by omega)];exact c2
theorem zvq:Tryz.prog.underlying 179=some (.struct (Tryz.prog.fieldsOf 179)):=by kernel_rfl
theorem zwa:Tryz.prog.stoodInHeld 179=false:=by kernel_rfl
theorem ztx:Tryz.prog.eqGuardType Tryz.prog.depth 179=false:=by kernel_rfl
theorem eq153(a b:Bool)(c d e f:Int)(w:World):(binOp .eql 179 (.agg #[.bool a,.int .i64 c,.int .i64 e]) (.agg #[.bool b,.int .i64 d,.int .i64 f])).run Tryz.prog w=.ok (.bool (a == b && (c == d && e == f))) w:=by
 have u3:=Tryz.underlying3
 have u4:=Tryz.underlying4
 rw[run_eql_struct,show(10000:Nat)=9999+1 from rfl,run_equalIn_agg w 9999 179 _ _ zvq zwa]
 simp only[Program.fieldsOf,Tryz.underlying179]
 go_simp
 by_cases h1:a=b <;> by_cases h2:c=d <;> by_cases h3:e=f <;> simp[h1,h2,h3]
def MBox(w:World)(b:Nat)(s:Sn):Prop:=w.heap[b]? = some (.cells #[.bool s.is,.int .i64 s.vals,.int .i64 s.tA] 179)
theorem MBox.lt{w:World}{b:Nat}{s:Sn}(h:MBox w b s):b < w.heap.size:=(sz h)
theorem MBox.kp{X:List Nat}{w w':World}{b:Nat}{s:Sn}(h:MBox w b s)(hk:Kp X w w')(hx:b∉X):MBox w' b s:=(hk.block b h.lt hx).trans h
theorem MBox.cells{w:World}{b:Nat}{s:Sn}(h:MBox w b s):w.cell? ⟨b,0,none⟩=some (.bool s.is)/\w.cell? ⟨b,1,none⟩=some (.int .i64 s.vals)/\w.cell? ⟨b,2,none⟩=some (.int .i64 s.tA)/\(∀ j,w.frozen? ⟨b,j,none⟩=false):=by
 unfold MBox at h
 refine⟨?_,?_,?_,fun j=>?_⟩ <;> simp[World.cell?,World.frozen?,h]
theorem MBox.setV{w:World}{b:Nat}{s:Sn}(h:MBox w b s)(v:Int):MBox (w.setCell ⟨b,1,none⟩ (.int .i64 v)) b ⟨s.is,v,s.tA⟩:=by
 unfold MBox at *
 simp[World.setCell,Array.getElem?_modify,h]
theorem MBox.setT{w:World}{b:Nat}{s:Sn}(h:MBox w b s)(v:Int):MBox (w.setCell ⟨b,2,none⟩ (.int .i64 v)) b ⟨s.is,s.vals,v⟩:=by
 unfold MBox at *
 simp[World.setCell,Array.getElem?_modify,h]
theorem MBox.set3{w:World}{b:Nat}{s:Sn}(h:MBox w b s)(t:Sn):MBox (((w.setCell ⟨b,0,none⟩ (.bool t.is)).setCell ⟨b,1,none⟩ (.int .i64 t.vals)).setCell ⟨b,2,none⟩ (.int .i64 t.tA)) b t:=by
 unfold MBox at *
 simp[World.setCell,Array.getElem?_modify,h]
theorem ztm:(Tryz.prog.info? 179).map (fun i=>(i.zero,i.size,i.bytes))=some (some (.agg #[.bool false,.int .i64 0,.int .i64 0]),3,24):=by kernel_rfl
theorem zv3(n:Nat)(hn:n<=65535)(w:World):(Instr.makeSlice 175 (.int .i64 ((n:Int)+1)) (.int .i64 ((n:Int)+1))).run Tryz.prog w=.ok (.slice (some ⟨w.heap.size,0,none⟩) (n+1) (n+1)) (w.alloc (.cells (madeCells #[.bool false,.int .i64 0,.int .i64 0] ((n+1) * 3)) 179)):=by
 obtain⟨i,h1,h2,h3,h4⟩:=zap ztm
 have hr:=run_make (P:=Tryz.prog) w 175 179 i _ Tryz.underlying175 h1 h2 .i64 .i64 ((n:Int)+1) ((n:Int)+1) (by omega) (Int.le_refl _) (by rw[h4];omega) (by omega)
 rw[h3] at hr
 have e:((n:Int)+1).toNat=n+1:=by omega
 rw[e] at hr
 exact hr
def WBox(w:World)(fp:Nat)(p:Option Addr)(nt cap:Nat)(p':Option Addr)(nf cap':Nat)(b n nc:Nat):Prop:=w.heap[fp]? = some (.cells #[.slice p nt cap,.slice p' nf cap',.slice (some ⟨b,0,none⟩) n nc] 177)
section
variable{w w':World}{fp:Nat}{p:Option Addr}{nt cap:Nat}{p':Option Addr}{nf cap':Nat}{b n nc:Nat}
theorem WBox.lt(h:WBox w fp p nt cap p' nf cap' b n nc):fp < w.heap.size:=(sz h)
theorem WBox.kp{X:List Nat}(h:WBox w fp p nt cap p' nf cap' b n nc)(hk:Kp X w w')(hx:fp∉X):WBox w' fp p nt cap p' nf cap' b n nc:=(hk.block fp h.lt hx).trans h
theorem WBox.cells(h:WBox w fp p nt cap p' nf cap' b n nc):w.cell? ⟨fp,0,none⟩=some (.slice p nt cap)/\w.cell? ⟨fp,1,none⟩=some (.slice p' nf cap')/\w.cell? ⟨fp,2,none⟩=some (.slice (some ⟨b,0,none⟩) n nc)/\fp < w.heap.size:=by
 have h2:=h.lt
 unfold WBox at h
 refine⟨?_,?_,?_,h2⟩ <;> simp[World.cell?,h]
theorem WBox.ne{L:List Sn}(h:WBox w fp p nt cap p' nf cap' b n nc)(hk:KBox w b L):fp≠b:=by
 intro e
 obtain⟨cs,h1,_⟩:=hk
 unfold WBox at h
 rw[e,h1] at h
 simp at h
end
def zQ(L:List Sn)(i:Nat)(s:Sn):Bool×List Sn:=if 5000 < s.vals then(false,L) else if((L[i]?).getD default).is=true then(decide ((L[i]?).getD default=s),L) else(true,L.set i s)
theorem zpq(w:World)(fp:Nat)(p:Option Addr)(nt cap:Nat)(p':Option Addr)(nf cap':Nat)(b nc:Nat)(L:List Sn)(i:Nat)(hi:i < L.length)(s:Sn)(hW:WBox w fp p nt cap p' nf cap' b L.length nc)(h:KBox w b L)(_hL:L.length<=100000) :
  Calls Tryz.prog 95 #[.pointer (some ⟨fp,0,none⟩),.int .i64 i,.agg #[.bool s.is,.int .i64 s.vals,.int .i64 s.tA]] w fun e w'=>e=.returned (.bool (zQ L i s).1)/\KBox w' b (zQ L i s).2/\Kp [b] w w':=by
 by_cases hv:5000 < s.vals
 ·have hT:zQ L i s=(false,L):=by unfold zQ;rw[if_pos hv]
  rw[hT]
  have H:Hid (KBox w b L):=h
  clear h hT hW
  go_enter Tryz.func95,Tryz.ntmps95
  go_wp2
  go_ret
  exact⟨rfl,H.o.kp kA (by simp),Kp.alloc [b] _ _⟩
 have hne:=hW.ne h
 have hka:Kp [] w (w.alloc (.cells #[.bool s.is,.int .i64 s.vals,.int .i64 s.tA] 179)):=kA
 have hWa:=hW.kp hka (by simp)
 have hKa:=h.kp hka (by simp)
 have hMa:MBox (w.alloc (.cells #[.bool s.is,.int .i64 s.vals,.int .i64 s.tA] 179)) w.heap.size s:=(MapKept.heap_alloc w _).1
 have hbl:=h.lt
 have Hka:Hid _:=Kp.mono hka (Y:=[b]) (by simp)
 have HWa:=zh hWa
 have HKa:=zh hKa
 have HMa:=zh hMa
 have Hne:=zh hne
 clear hka hWa hKa hMa hne h hW
 obtain⟨R,hR⟩:∃ R,R=zQ L i s:=⟨_,rfl⟩
 rw[<-hR]
 unfold zQ at hR
 rw[if_neg hv] at hR
 have HR:=zh hR
 clear hR
 go_enter Tryz.func95,Tryz.ntmps95
 go_upto_region 1 with fail
 generalize w.alloc _=w0 at *
 obtain⟨m0,m1,m2,mf⟩:=MBox.cells HMa.o
 have m3:=MBox.lt HMa.o
 obtain⟨x0,x1,x2,x3⟩:=WBox.cells HWa.o
 obtain⟨c0,c1,c2,fz⟩:=KBox.cells HKa.o i hi
 have hbl0:=KBox.lt HKa.o
 have e0:(L[i]?).getD default=L[i]'hi:=by simp[hi]
 have hset:=fun t:Sn=>KBox.set HKa.o i hi t
 rw[e0] at HR
 generalize hx:(L[i]'hi)=x at *
 obtain⟨xi,xv,xt⟩:=x
 simp only at *
 have f0:=fz (i * 3)
 have f1:=fz (i * 3+1)
 have f2:=fz (i * 3+2)
 clear fz mf e0 hx
 have hi':(i:Int) < L.length:=by omega
 cases xi with
 | true=>
  have hR:R=(decide ((⟨true,xv,xt⟩:Sn)=s),L):=by rw[HR.o];rfl
  subst hR
  clear hset
  have hg:=ztx
  have he:=eq153 true s.is xv s.vals xt s.tA
  go_wp2_with fail
  go_quiet (fail)
  go_wp2
  go_ret
  refine⟨?_,KBox.kp HKa.o (kr.drewN nq) (by simp),Kp.trans Hka.o ((Kp.refl _ _).drewN nq)⟩
  obtain⟨s1,s2,s3⟩:=s
  cases s1 <;> by_cases h2:xv=s2 <;> by_cases h3:xt=s3 <;> simp[h2,h3]
 | false=>
  have hR:R=(true,L.set i s):=by rw[HR.o];rfl
  subst hR
  have Hs:Hid _:=hset s
  clear hset
  go_wp2_with fail
  go_region
  all_goals go_wp2
  all_goals go_ret
  all_goals
   refine⟨rfl,KBox.kp Hs.o (kr.drew) (by simp),Kp.trans Hka.o (Kp.drew ?_)⟩
   exact((Kp.setCell w0 ⟨b,i * 3,none⟩ (by simp) _).trans (Kp.setCell _ ⟨b,i * 3+1,none⟩ (by simp) _)).trans (Kp.setCell _ ⟨b,i * 3+2,none⟩ (by simp) _)
theorem Below.drewN'{B:Nat}{a w:World}(h:Below B a w)(n:Nat):Below B a (w.drewN n):=⟨h.os,h.tape,h.output,h.size,h.block⟩
theorem zho(fs:List Fn)(k:Nat)(hk:k < 26)(a b:Int)(h7:k≠7)(h12:k≠12)(h13:k≠13):zT fs ⟨k,a,b⟩=takeOf k:=by
 rcases nats26 k hk with rfl | rfl | rfl | rfl | rfl | rfl | rfl | rfl | rfl | rfl | rfl | rfl | rfl | rfl | rfl | rfl | rfl | rfl | rfl | rfl | rfl | rfl | rfl | rfl | rfl | rfl <;> first | (exact absurd rfl h7) | (exact absurd rfl h12) | (exact absurd rfl h13) | simp[zT,takeOf,takeT]
theorem zpr(k:Nat)(hk:k < 26)(a b:Int):putsP ⟨k,a,b⟩=putOf k:=by
 rcases nats26 k hk with rfl | rfl | rfl | rfl | rfl | rfl | rfl | rfl | rfl | rfl | rfl | rfl | rfl | rfl | rfl | rfl | rfl | rfl | rfl | rfl | rfl | rfl | rfl | rfl | rfl | rfl <;> simp[putsP,putOf,putT]
theorem zp1{nt nf:Nat}{f:Fn}{x:In}{main:Bool}(h:zR nt nf f x main=0)(hx:x.op=12):x.a < 15:=by
 unfold zR at h
 rw[if_neg (by omega)] at h
 split at h
 ·rename_i ho
  unfold opOk at ho
  simpa [hx] using ho
 ·cases h
theorem znc(w:World)(p:Option Addr)(nt cap:Nat)(p':Option Addr)(cap':Nat)(fs:List Fn)(f:Fn)(main:Bool)(k:Nat)(hk:k < 26)(a c:Int)(hx:In.ok ⟨k,a,c⟩=true)(ho:zR nt fs.length f ⟨k,a,c⟩ main=0)(hF:zF w p' fs)(hS:ShIn w)(hG:SgIn w) :
  Calls Tryz.prog 46 #[.agg #[.slice p nt cap,.slice p' fs.length cap'],.agg #[.int .i64 k,.int .i64 a,.int .i64 c]] w fun e w'=>e=.returned (.int .i64 (zT fs ⟨k,a,c⟩))/\Below w.heap.size w w':=by
 have hba:Below w.heap.size w ((w.alloc (.cells #[.slice p nt cap,.slice p' fs.length cap'] 25)).alloc (.cells #[.int .i64 k,.int .i64 a,.int .i64 c] 44)):=((Below.refl _ _).alloc (Nat.le_refl _) _).alloc (by simp) _
 have HB:=zh hba
 have hk':(k:Int) < 26:=by omega
 by_cases h7:k=7
 ·subst h7
  rw[show zT fs ⟨(7:Nat),a,c⟩=c by simp[zT]]
  clear hba hk'
  go_enter Tryz.func46,Tryz.ntmps46
  go_wp2
  go_ret
  exact⟨rfl,HB.o⟩
 by_cases h13:k=13
 ·subst h13
  obtain⟨a1,a2⟩:=zgq ho rfl
  simp only at a1 a2
  obtain⟨j,rfl⟩:∃ j:Nat,a=(j:Int):=⟨a.toNat,by omega⟩
  have hj:j < fs.length:=by omega
  obtain⟨fb,fo,q,qc,rfl,hbw,hfc,hIn⟩:=(hF.below hba).get j hj
  obtain⟨y0,y1,y2⟩:=hfc
  rw[show zT fs ⟨(13:Nat),j,c⟩=(fs[j]'hj).free by simp[zT,hj]]
  clear hba hk' hIn ho hx
  generalize (fs[j]'hj).free=fr at *
  simp only[Int.cast_ofNat_Int] at *
  go_enter Tryz.func46,Tryz.ntmps46
  go_wp2
  go_ret
  exact⟨rfl,HB.o⟩
 have hx7:((k:Int) == 7)=false:=by simp;omega
 have hx13:((k:Int) == 13)=false:=by simp;omega
 by_cases h12:k=12
 ·subst h12
  have a2:=zp1 ho rfl
  have a1:=(zal (In.ok_one hx rfl)).1
  simp only at a1 a2
  obtain⟨j,rfl⟩:∃ j:Nat,a=(j:Int):=⟨a.toNat,by omega⟩
  have hj:j < 15:=by omega
  have g0:=(hG.below hba).cell j hj
  have hj':(j:Int) < 15:=by omega
  have hT:zT fs ⟨(12:Nat),j,c⟩=if j=12\/j=14 then 1 else 2:=by
   simp only[zT]
   simp
   omega
  rw[hT]
  clear hba hk' ho hx hT hx7 hx13 h7 h13
  have:j=0\/j=1\/j=2\/j=3\/j=4\/j=5\/j=6\/j=7\/j=8\/j=9\/j=10\/j=11\/j=12\/j=13\/j=14:=by omega
  rcases this with rfl | rfl | rfl | rfl | rfl | rfl | rfl | rfl | rfl | rfl | rfl | rfl | rfl | rfl | rfl
  all_goals simp only[signT,List.getElem?_cons_zero,List.getElem?_cons_succ,Option.getD_some] at g0
  all_goals simp only[Int.cast_ofNat_Int] at *
  all_goals go_enter Tryz.func46,Tryz.ntmps46
  all_goals go_wp2
  all_goals go_ret
  all_goals exact⟨rfl,HB.o⟩
 have hx12:((k:Int) == 12)=false:=by simp;omega
 obtain⟨-,c1,-⟩:=(hS.below hba).cells k hk
 rw[zho fs k hk a c h7 h12 h13]
 clear hba ho hx h7 h12 h13
 generalize takeOf k=tk at *
 go_enter Tryz.func46,Tryz.ntmps46
 go_wp2
 go_ret
 exact⟨rfl,HB.o⟩
theorem zdj(f:List UInt8)(i:Nat)(h:f[i]? = none)(a:Int):argOk f i a=(a == 0):=by
 unfold argOk
 rw[h]
 rfl
theorem zwv(a:Int):argOk [105] 0 a=isNum a:=by
 unfold argOk isNum
 simp
theorem zhd(f:List UInt8)(i:Nat)(h:f[i]? = some 110)(a:Int):argOk f i a=isTwo a:=by
 unfold argOk
 rw[h]
 simp
theorem zp0(k:Nat)(hk:k < 26)(a b:Int)(w:World)(hS:ShIn w):Calls Tryz.prog 63 #[.agg #[.int .i64 k,.int .i64 a,.int .i64 b]] w fun e w'=>e=.returned (.bool (In.ok ⟨k,a,b⟩))/\Below w.heap.size w w':=by
 rw[In.ok_both ⟨k,a,b⟩ (zql hk)]
 have hb0:=(Below.refl w.heap.size w).alloc (Nat.le_refl _) (.cells #[.int .i64 k,.int .i64 a,.int .i64 b] 44)
 have Hb0:=zh hb0
 obtain⟨c0,-,-⟩:=(hS.below hb0).cells k hk
 have hk':(k:Int) < 26:=by omega
 clear hS hb0
 show Calls Tryz.prog 63 _ w fun e w'=>e=.returned (.bool (argOk (form k) 0 a && argOk (form k) 1 b))/\_
 rcases zdg k hk with⟨h1,h2⟩ | ⟨h1,h2⟩ | ⟨h1,h2⟩ | ⟨h1,h2⟩
 ·rw[h1] at c0
  rw[h2]
  clear h1 h2
  rw[zdj [] 0 rfl a,zdj [] 1 rfl b]
  by_cases ha:a=0
  ·subst ha
   go_enter Tryz.func63,Tryz.ntmps63
   go_wp2
   go_ret
   exact⟨rfl,Hb0.o⟩
  ·have ha2:(a == 0)=false:=by simp[ha]
   rw[ha2]
   clear ha
   go_enter Tryz.func63,Tryz.ntmps63
   go_wp2
   go_ret
   exact⟨rfl,Hb0.o⟩
 ·rw[h1] at c0
  rw[h2]
  clear h1 h2
  rw[zwv a,zdj [105] 1 rfl b]
  have Ha:Hid _:=zjs a (w.alloc (.cells #[.int .i64 k,.int .i64 a,.int .i64 b] 44))
  generalize isNum a=p at Ha ⊢
  cases p
  ·go_enter Tryz.func63,Tryz.ntmps63
   go_wp2_with fail
   refine cM Ha.o ?_
   rintro e9 w9 ⟨rfl,rfl⟩
   go_wp2
   go_ret
   exact⟨rfl,Hb0.o⟩
  ·go_enter Tryz.func63,Tryz.ntmps63
   go_wp2_with fail
   refine cM Ha.o ?_
   rintro e9 w9 ⟨rfl,rfl⟩
   go_wp2
   go_ret
   exact⟨rfl,Hb0.o⟩
 ·rw[h1] at c0
  rw[h2]
  clear h1 h2
  rw[zhd [110] 0 rfl a,zdj [110] 1 rfl b]
  have Ha:Hid _:=zeb a (w.alloc (.cells #[.int .i64 k,.int .i64 a,.int .i64 b] 44))
  generalize isTwo a=p at Ha ⊢
  cases p
  ·go_enter Tryz.func63,Tryz.ntmps63
   go_wp2_with fail
   refine cM Ha.o ?_
   rintro e9 w9 ⟨rfl,rfl⟩
   go_wp2
   go_ret
   exact⟨rfl,Hb0.o⟩
  ·go_enter Tryz.func63,Tryz.ntmps63
   go_wp2_with fail
   refine cM Ha.o ?_
   rintro e9 w9 ⟨rfl,rfl⟩
   go_wp2
   go_ret
   exact⟨rfl,Hb0.o⟩
 ·rw[h1] at c0
  rw[h2]
  clear h1 h2
  rw[zhd [110,110] 0 rfl a,zhd [110,110] 1 rfl b]
  have Ha:Hid _:=zeb a (w.alloc (.cells #[.int .i64 k,.int .i64 a,.int .i64 b] 44))
  have Hb:Hid _:=zeb b (w.alloc (.cells #[.int .i64 k,.int .i64 a,.int .i64 b] 44))
  generalize isTwo a=p at Ha ⊢
  generalize isTwo b=q at Hb ⊢
  cases p
  ·go_enter Tryz.func63,Tryz.ntmps63
   go_wp2_with fail
   refine cM Ha.o ?_
   rintro e9 w9 ⟨rfl,rfl⟩
   go_wp2
   go_ret
   exact⟨rfl,Hb0.o⟩
  ·go_enter Tryz.func63,Tryz.ntmps63
   go_wp2_with fail
   refine cM Ha.o ?_
   rintro e9 w9 ⟨rfl,rfl⟩
   go_wp2_with fail
   refine cM Hb.o ?_
   rintro e9 w9 ⟨rfl,rfl⟩
   go_wp2
   go_ret
   exact⟨rfl,Hb0.o⟩
theorem zbj(n:Nat):isTwo (n:Int)=decide (n<=65535):=by
 unfold isTwo
 rw[decide_eq_true (by omega:(0:Int)<=n),Bool.true_and]
 apply decide_eq_decide.2
 omega
theorem zll(f:Fn)(q:Option Addr)(qc:Nat)(w:World)(hS:ShIn w)(hI:InsIn w q f.ins):Calls Tryz.prog 28 #[.agg #[.int .i64 f.free,.int .i64 f.sA,.slice q f.ins.length qc]] w fun e w'=>e=.returned (.bool f.ok)/\Below w.heap.size w w':=by
 have hb0:=(Below.refl w.heap.size w).alloc (Nat.le_refl _) (.cells #[.int .i64 f.free,.int .i64 f.sA,.slice q f.ins.length qc] 47)
 have hx:FBox (w.alloc (.cells #[.int .i64 f.free,.int .i64 f.sA,.slice q f.ins.length qc] 47)) w.heap.size f q qc:=(MapKept.heap_alloc w _).1
 have HS:Hid _:=hS.below hb0
 have HI:Hid _:=hI.below hb0
 have hnl:=hI.len
 have Hb0:=zh hb0
 have Hx:=zh hx
 clear hS hI hb0 hx
 obtain⟨R,hR⟩:∃ R,R=f.ok:=⟨_,rfl⟩
 rw[<-hR]
 unfold Fn.ok at hR
 rw[zbj] at hR
 have HR0:=zh hR
 clear hR
 go_enter Tryz.func28,Tryz.ntmps28
 go_upto_region 1 with fail
 generalize w.alloc _=w0 at *
 obtain⟨z0,z1,z2,z3⟩:=FBox.cells Hx.o
 have H1:Hid _:=zeb f.free w0
 have H2:Hid _:=zeb f.sA w0
 generalize isTwo f.free=p1 at *
 generalize isTwo f.sA=p2 at *
 cases p1
 ·go_wp2_with fail
  refine cM H1.o ?_
  rintro e9 w9 ⟨rfl,rfl⟩
  go_wp2
  go_ret
  exact⟨by rw[HR0.o];rfl,Hb0.o⟩
 go_wp2_with fail
 refine cM H1.o ?_
 rintro e9 w9 ⟨rfl,rfl⟩
 cases p2
 ·go_wp2_with fail
  refine cM H2.o ?_
  rintro e9 w9 ⟨rfl,rfl⟩
  go_wp2
  go_ret
  exact⟨by rw[HR0.o];rfl,Hb0.o⟩
 go_wp2_with fail
 refine cM H2.o ?_
 rintro e9 w9 ⟨rfl,rfl⟩
 by_cases hl:¬ f.ins.length<=65535
 ·have HR1:R=false:=by rw[HR0.o,decide_eq_false hl];rfl
  have hl':(65535:Int) < f.ins.length:=by omega
  subst HR1
  go_wp2
  go_ret
  exact⟨rfl,Hb0.o⟩
 replace hl:f.ins.length<=65535:=by omega
 have HR1:Hid (R=f.ins.all In.ok):=by unfold Hid;rw[HR0.o,decide_eq_true hl];rfl
 have hl':¬ (65535:Int) < f.ins.length:=by omega
 go_wp2_with fail
 go_loopg [24] f.ins.length (fun g iv wr=>∃ i:Nat,iv=.int .i64 i/\i<=f.ins.length/\g=f.ins.length - i/\Hid ((f.ins.drop i).all In.ok=f.ins.all In.ok/\Below w9.heap.size w9 wr))
 case atStart=>exact⟨0,rfl,by omega,by omega,rfl,Below.refl _ _⟩
 case round=>
  obtain⟨i,rfl,hi1,rfl,HR⟩:=hrel
  clear z0 z1 z2 z3
  by_cases hi:i < f.ins.length
  ·have hi':(i:Int) < f.ins.length:=by omega
   obtain⟨r1,r2⟩:=HR.o
   obtain⟨b,o,rfl,hbw,y0,y1,y2⟩:=HI.o.get i hi
   rw[zct In.ok f.ins i hi] at r1
   generalize f.ins[i]'hi=x at *
   have hk1:=r2.alloc r2.size (.cells #[.int .i64 x.op,.int .i64 x.a,.int .i64 x.b] 44)
   have v0:=(r2.cell (p:=⟨b,o+i * 3,none⟩) hbw).trans y0
   have v1:=(r2.cell (p:=⟨b,o+i * 3+1,none⟩) hbw).trans y1
   have v2:=(r2.cell (p:=⟨b,o+i * 3+2,none⟩) hbw).trans y2
   have hbr:=lL hbw r2.size
   have hxb:(wr.alloc (.cells #[.int .i64 x.op,.int .i64 x.a,.int .i64 x.b] 44)).heap[wr.heap.size]? = some (.cells #[.int .i64 x.op,.int .i64 x.a,.int .i64 x.b] 44):=(MapKept.heap_alloc wr _).1
   have Hxb:=zh hxb
   have Hk1:=zh hk1
   have Hall:=zh r1
   clear r1 r2 y0 y1 y2 hk1 hxb hbw
   go_upto_region 6 with fail
   clear v0 v1 v2 hbr
   generalize wr.alloc _=w1 at *
   have u0:w1.cell? ⟨wr.heap.size,0,none⟩=some (.int .i64 x.op):=by simp[World.cell?,Hxb.o]
   have u1:w1.cell? ⟨wr.heap.size,1,none⟩=some (.int .i64 x.a):=by simp[World.cell?,Hxb.o]
   have u2:w1.cell? ⟨wr.heap.size,2,none⟩=some (.int .i64 x.b):=by simp[World.cell?,Hxb.o]
   have Hc:Hid _:=zdi x.op 26 w1
   have e26:(decide (0<=x.op) && decide (x.op < 26))=isOp x.op:=by
    unfold isOp
    congr 1
    apply decide_eq_decide.2
    omega
   rw[e26] at Hc
   clear e26
   cases hop:isOp x.op
   ·rw[hop] at Hc
    have hR1:R=false:=by rw[HR1.o,<-Hall.o,x.ok_not hop];rfl
    subst hR1
    clear hop
    go_wp2_with fail
    refine cM Hc.o ?_
    rintro e8 w8 ⟨rfl,rfl⟩
    go_wp2
    go_ret
    exact⟨rfl,Below.trans Hb0.o (Hk1.o.mono (Below.size Hb0.o))⟩
   ·rw[hop] at Hc
    have Hop:Hid _:=zp0 x.op.toNat (by have:=zc8 hop;omega) x.a x.b w1 (ShIn.below HS.o Hk1.o)
    have eop:((x.op.toNat:Nat):Int)=x.op:=by have:=zc8 hop;omega
    rw[eop] at Hop
    clear eop hop
    go_wp2_with fail
    refine cM Hc.o ?_
    rintro e8 w8 ⟨rfl,rfl⟩
    go_wp2_with fail
    refine cM Hop.o ?_
    rintro e7 w7 ⟨rfl,hb7⟩
    clear u0 u1 u2
    have Hk7:Hid _:=Below.then Hk1.o hb7 (Nat.le_refl _)
    clear hb7
    have Hall2:=zh Hall.o
    generalize hok:In.ok ⟨x.op,x.a,x.b⟩=ok at *
    clear hok
    cases ok
    ·have hR1:R=false:=by rw[HR1.o,<-Hall2.o];rfl
     subst hR1
     go_wp2
     go_ret
     exact⟨rfl,Below.trans Hb0.o (Hk7.o.mono (Below.size Hb0.o))⟩
    ·go_wp2
     go_roundg (f.ins.length - (i+1))
     case measure=>omega
     case rel=>exact⟨i+1,by first | rfl | (congr 1;omega) | go_num,by omega,rfl,Hall2.o,Hk7.o⟩
  ·have hi':¬ (i:Int) < f.ins.length:=by omega
   have hr:=HR.o
   rw[zbk f.ins i hi] at hr
   go_wp2
   go_ret
   exact⟨by rw[HR1.o,<-hr.1];rfl,Below.trans Hb0.o (hr.2.mono (Below.size Hb0.o))⟩
end Go.Proofs.YtkcmachfagcnaaaGreatDoor.C12
