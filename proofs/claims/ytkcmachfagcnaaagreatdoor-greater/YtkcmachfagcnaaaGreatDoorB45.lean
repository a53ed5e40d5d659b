/- Part of Greater. -/
import Derived.Test.YtkcmachfagcnaaaGreatDoorB44
import Derived.Test.YtkcmachfagcnaaaGreatDoorB12
set_option maxHeartbeats 8000000
set_option maxRecDepth 100000
namespace Go.Proofs.YtkcmachfagcnaaaGreatDoor
open Go.RowKit Go.Deep Go.IntWalk
open C12 (zX zF InsIn InsC FnCells FnAt FnsNe zdm Cd Fn In zT)
def zes(l:List FnAt):List Nat:=l.filterMap fun x=>x.q.map fun a=>a.block
structure ClAt(w2:World)(b o:Nat)(l:List FnAt)(i:Nat)(wr:World):Prop where
 fc:∀ j (hj:j < l.length),FnCells wr b (o+j * 3) (l[j]'hj).f (l[j]'hj).q (l[j]'hj).cap
 ic:∀ j (hj:j < l.length),InsC wr (l[j]'hj).q (if j < i then zC [] (l[j]'hj).f.ins else(l[j]'hj).f.ins)
 kept:Kp (zes l) w2 wr
 lt:b < wr.heap.size
theorem FnCells.kp{X:List Nat}{w w':World}{b o:Nat}{f:C12.Fn}{q:Option Addr}{cap:Nat}(h:FnCells w b o f q cap)(hk:Kp X w w')(hb:b∉X):FnCells w' b o f q cap:=⟨hk.cell h.c0 hb,hk.cell h.c1 hb,hk.cell h.c2 hb⟩
theorem zii{X:List Nat}{w w':World}{p:Option Addr}{l:List In}(h:InsC w p l)(hk:Kp X w w')(hX:∀ b,p=some b->b.block∉X):InsC w' p l:=by
 refine⟨⟨h.ins.len,fun i hi=>?_⟩,fun a e=>?_⟩
 ·obtain⟨b,o,h1,h2,h3,h4,h5⟩:=h.ins.get i hi
  have hb:=hX _ h1
  exact⟨b,o,h1,lL h2 hk.size,hk.cell h3 hb,hk.cell h4 hb,hk.cell h5 hb⟩
 ·obtain⟨cur,hc⟩:=h.obj a e
  exact⟨cur,(hk.block a.block (sz hc) (hX a e)).trans hc⟩
theorem ClAt.keep{w2 wr w':World}{b o:Nat}{l:List FnAt}{i:Nat}(h:ClAt w2 b o l i wr)(hk:Kp [] wr w'):ClAt w2 b o l i w':=⟨fun j hj=>FnCells.kp (h.fc j hj) hk (by simp),fun j hj=>zii (h.ic j hj) hk (by simp),h.kept.trans (hk.mono (by simp)),lL h.lt hk.size⟩
theorem ClAt.next{w2 wr w':World}{b o ib io:Nat}{l:List FnAt}{i:Nat}(h:ClAt w2 b o l i wr)(hne:FnsNe l)(hi:i < l.length)(hq:(l[i]'hi).q=some ⟨ib,io,none⟩)(hb:ib≠b)(hin:InsIn w' (some ⟨ib,io,none⟩) (zC [] (l[i]'hi).f.ins))(hob:∃ cur,w'.heap[ib]? = some (.cells cur 44))(hk:Kp [ib] wr w'):ClAt w2 b o l (i+1) w':=by
 refine⟨fun j hj=>FnCells.kp (h.fc j hj) hk (by simpa using Ne.symm hb),fun j hj=>?_,h.kept.trans (hk.mono (fun x hx=>?_)),lL h.lt hk.size⟩
 ·by_cases e:j=i
  ·subst e
   rw[if_pos (by omega),hq]
   exact⟨hin,fun a e=>by cases e;exact hob⟩
  ·have h1:=h.ic j hj
   rw[show(if j < i+1 then zC [] (l[j]'hj).f.ins else(l[j]'hj).f.ins)=(if j < i then zC [] (l[j]'hj).f.ins else(l[j]'hj).f.ins) from by
    by_cases h2:j < i
    ·rw[if_pos h2,if_pos (by omega)]
    ·rw[if_neg h2,if_neg (by omega)]]
   refine zii h1 hk (fun a ha=>?_)
   have hp:=List.pairwise_iff_getElem.1 hne
   simp only[List.mem_singleton]
   rcases Nat.lt_or_gt_of_ne e with h3 | h3
   ·exact hp j i hj hi h3 a _ ha hq
   ·exact fun e4=>hp i j hi hj h3 _ a hq ha (by simpa using e4.symm)
 ·rw[List.mem_singleton.1 hx]
  unfold zes
  exact List.mem_filterMap.2 ⟨l[i]'hi,List.getElem_mem hi,by rw[hq];rfl⟩
def AM.zero:AM:=⟨⟨[],[],[],[]⟩,fun _=>none,0,0,⟨#[]⟩,[],0⟩
def Pg.zero:Pg:=⟨1,.slice none 0 0,[],.slice none 0 0,.slice none 0 0,.slice none 0 0,.slice none 0 0,.slice none 0 0,⟨[],[],[],[]⟩⟩
theorem zdd(w:World)(base e size:Nat):w.ownsRow base e size (.slice none 0 0) 0 []:=⟨by simp,Or.inl ⟨rfl,rfl⟩⟩
theorem J.zero(X:Fx)(w:World)(hb:w.heap[X.mm]? = some (.cells (mfOf X Pg.zero AM.zero).arr 64))(hh:w.heap[X.hp]? = some (.cells #[.int .i64 X.cells,.int .i64 1,.slice none 0 0] 91))(hbl:Below X.wc.heap.size X.wc w)(h1:X.wc.heap.size<=X.mm)(h2:X.wc.heap.size<=X.hp)(h3:X.wc.heap.size<=X.base)(h4:X.base<=w.heap.size)(hc:0<=X.cells/\X.cells<=1000000):J X w Pg.zero AM.zero (fun _ _=>False):=by
 refine
  {box:=hb,oc:=zdd _ _ _ _,os:=zdd _ _ _ _,ov:=zdd _ _ _ _,ot:=zdd _ _ _ _,oo:=zdd _ _ _ _
   dj:=fun k e=>nomatch e
   hh:=⟨hh,?_,by simp[Pg.zero,encL],by simp[Pg.zero]⟩
   cl:=?_
   oth:=fun t ht=>nomatch ht
   wfr:=fun c hc=>nomatch hc
   one:=⟨fun _ _ _ h=>False.elim h,fun _ _ _ h=>False.elim h⟩
   st:=⟨rfl,(fun i hi=>nomatch hi),zV.none,zV.none,rfl⟩
   th:=fun _ _ h=>False.elim h
   bl:=hbl
   lb:=⟨h1,h2,h3,fun k e=>nomatch e⟩
   bs:=h4
   ck:=hc
   fb:=by simp[Pg.zero,AM.zero]
   nx:=by simp[AM.zero]
   nd:=fun y e=>nomatch e
   len:=by simp[Pg.zero,AM.zero]}
 ·exact zdd _ _ _ _
 ·exact fun t ht=>nomatch ht
def AM.start:AM:={AM.zero with s:=AM.zero.s.enter 0 default default}
theorem zq2(w:World)(n:Int):Calls Tryz.prog 8 #[.pointer none,.int .i64 n] w fun e w'=>e=.returned (.int .i64 0)/\Kp [] w w':=by
 have Q:Hid (Kp [] w w):=Kp.refl _ _
 go_enter Tryz.func8,Tryz.ntmps8
 go_wp2_with fail
 exact bR (by simp[results,Tryz.results8,go_sem]) ⟨rfl,Q.o⟩
theorem zky(w:World):Calls Tryz.prog 9 #[.pointer none] w fun e w'=>e=.returned (.agg #[.int .i64 0,.string ⟨#[]⟩,.string ⟨#[]⟩,.int .i64 0])/\Kp [] w w':=by
 have Q:Hid (∀ o,Kp [] w (w.alloc o)):=fun o=>Kp.alloc [] _ _
 go_enter Tryz.func9,Tryz.ntmps9
 go_wp2_with fail
 exact bR (by simp[results,Tryz.results9,go_sem]) ⟨rfl,Q.o _⟩
theorem zsl{c:Cd}{T:Nat->Nat->Nat}(hc:CdOk c T):GoOk c T 0 AM.start:=by
 intro _
 have h0:=hc.nf.1
 have hf:=hc.fn 0 h0
 have e0:fnAt c 0=c.funs[0]'h0:=by
  unfold fnAt
  rw[show(0:Int).toNat=0 from rfl,gE h0]
  rfl
 refine⟨⟨?_,?_,?_,?_,?_,?_,?_,?_,?_,?_⟩,?_⟩
 ·refine Chain.snoc [] ⟨0,default,default,0,0,0,0⟩ 0 0 0 .nil ⟨?_,?_,?_,?_,?_,?_,?_⟩
  ·exact⟨by show(0:Int)<=0;omega,by show(0:Int) < _;omega⟩
  ·show 0 < (fnAt c 0).ins.length
   rw[e0]
   exact hf.pos
  ·exact⟨Nat.le_refl _,by omega⟩
  ·exact Nat.le_refl _
  ·show 0+T 0 0=0
   rw[hf.zero]
  ·intro j hj
   have:j < T 0 0:=hj
   rw[hf.zero] at this
   omega
  ·intro h
   exact absurd hc.fr0 h
 ·intro v hv hp
  have:v∈[(default:Cl),default]:=by simpa [AM.start,AM.zero,St.enter,St.roots,zY] using hv
  have:v=default:=by simpa using this
  rw[this]
  exact⟨by decide,by decide⟩
 ·intro y t e
  cases e
 ·exact⟨by decide,by decide⟩
 ·exact Nat.le_refl _
 ·exact Nat.le_refl _
 ·show(1:Nat)<=500
  omega
 ·exact Nat.zero_le _
 ·exact Nat.le_refl _
 ·intro y e
  cases e
 ·intro t ht
  cases ht
end Go.Proofs.YtkcmachfagcnaaaGreatDoor
namespace Go.Proofs.YtkcmachfagcnaaaGreatDoor
open Go.RowKit Go.Deep Go.IntWalk
open C12 (zX zF InsIn InsC FnCells FnAt FnsNe zdm Cd Fn In zT decR)
structure Tb(w:World):Prop where
 lib:LibIn w
 ex:ExIn w
 sh:C12.ShIn w
 sg:C12.SgIn w
 bs:BsIn w
 et:C12.EtIn w
theorem Tb.kp{w w':World}(h:Tb w)(hk:Kp [] w w'):Tb w':=by
 have hb:=hk.below (Nat.le_refl _) (by simp)
 exact⟨h.lib.below hb,h.ex.below hb,h.sh.below hb,h.sg.below hb,h.bs.kp hk,h.et.below hb⟩
def loadF(S:ByteArray)(cells:Int):Int×Int:=if(decR S).2.1≠0 then(decR S).2 else if(decR S).1.chk.1≠0 then(decR S).1.chk else if cells < 0\/1000000 < cells then(21,0) else(0,0)
inductive LoadPost(w:World)(S:ByteArray)(cells:Int):Ending->World->Prop
 | bad (k a:Int) (w':World) (hk:k≠0) (hf:loadF S cells=(k,a)) (hb:Kp [] w w'):LoadPost w S cells (.returned (.tuple #[.pointer none,.agg #[.int .i64 k,.int .i64 a]])) w'
 | good (X:Fx) (g:Pg) (R:Int->Int->Prop) (T:Nat->Nat->Nat) (w':World) (hf:loadF S cells=(0,0)) (hJ:J X w' g AM.start R) (E:Env X) (hc:CdOk X.cd T) (hcd:X.cd=zZ (decR S).1) (hce:X.cells=cells) (hb:Kp [] w X.wc):LoadPost w S cells (.returned (.tuple #[.pointer (some ⟨X.mm,0,none⟩),.agg #[.int .i64 0,.int .i64 0]])) w'
theorem znf{x:In}(h:x.ok=true)(hs:za5 x):0<=x.a/\x.a<=65535:=by
 obtain⟨_,h1,_,_⟩:=C12.In.ok_spec h
 unfold za5 at hs
 have h2:C12.isTwo x.a=true:=by
  rcases hs with e | e | e <;> (rw[e] at h1;simpa [C12.argOk,C12.form,C12.formT] using h1)
 exact C12.zal h2
theorem za1{w1:World}{b t:Nat}{c0 c1:Value}(hb:w1.heap[b]? = some (.cells #[c0,c1] t)):w1.cell? ⟨b,0,none⟩=some c0/\w1.cell? ⟨b,1,none⟩=some c1/\w1.frozen? ⟨b,0,none⟩=false/\w1.frozen? ⟨b,1,none⟩=false/\b < w1.heap.size:=by
 refine⟨?_,?_,?_,?_,(sz hb)⟩ <;> simp[World.cell?,World.frozen?,hb]
theorem zek{w1:World}{b t:Nat}{c0 c1:Value}(hb:w1.heap[b]? = some (.cells #[c0,c1] t))(u1 u2:Value):((w1.setCell ⟨b,0,none⟩ u1).setCell ⟨b,1,none⟩ u2).heap[b]? = some (.cells #[u1,u2] t):=by
 simp[World.setCell,Array.getElem?_modify,hb]
theorem zew{w w2:World}{b:Nat}(h:Kp [] w w2)(hb:w.heap.size<=b)(u1 u2:Value):Kp [] w ((w2.setCell ⟨b,0,none⟩ u1).setCell ⟨b,1,none⟩ u2):=h.then ((Kp.setCell (X:=[b]) _ _ (by simp) _).trans (Kp.setCell (X:=[b]) _ _ (by simp) _)) (fun y hy=>Or.inr (by rw[List.mem_singleton.1 hy];exact hb))
theorem zl1{w:World}{b i t:Nat}{a:Array Value}{v:Value}(h:w.heap[b]? = some (.cells a t))(hv:a[i]? = some v):w.setCell ⟨b,i,none⟩ v=w:=by
 have e:w.heap.modify b (fun o=>match o with | .cells a t f=>.cells (a.setIfInBounds i v) t f | o=>o)=w.heap:=by
  apply Array.ext_getElem?
  intro j
  rw[Array.getElem?_modify]
  split
  ·rename_i hj
   subst hj
   rw[h]
   simp only[Option.map_some]
   have e2:a.setIfInBounds i v=a:=by
    apply Array.ext_getElem?
    intro k
    rw[Array.getElem?_setIfInBounds]
    split
    ·rename_i hk
     subst hk
     rw[hv]
     split
     ·rfl
     ·rename_i h3
      rw[Array.getElem?_eq_none (by omega)] at hv
      cases hv
    ·rfl
   rw[e2]
  ·rfl
 cases w
 unfold World.setCell
 simp only at e ⊢
 congr 1
theorem zpb{w:World}{b t:Nat}{c0 c1:Value}(h:w.heap[b]? = some (.cells #[c0,c1] t)):(w.setCell ⟨b,0,none⟩ c0).setCell ⟨b,1,none⟩ c1=w:=by
 rw[zl1 h rfl,zl1 h rfl]
theorem zli{w:World}{n:Nat}{q:Option Addr}{l:List In}(h:InsIn w q l)(hn:n<=w.heap.size)(hq:∀ a,q=some a->a.block < n):InsIn (trunc w n) q l:=⟨h.len,fun i hi=>by
 obtain⟨b,o,h1,h2,h3,h4,h5⟩:=h.get i hi
 have hb:=hq _ h1
 simp only at hb
 exact⟨b,o,h1,by rw[zbn w n hn];exact hb,by rw[zb6 w n hb];exact h3,by rw[zb6 w n hb];exact h4,by rw[zb6 w n hb];exact h5⟩⟩
theorem zh5{w:World}{n:Nat}{q:Option Addr}{l:List ByteArray}(h:zX w q l)(hn:n<=w.heap.size)(hq:∀ i (_:i < l.length) a,q=some a->a.block < n):zX (trunc w n) q l:=⟨h.len,fun i hi=>by
 obtain⟨b,o,h1,h2,h3⟩:=h.get i hi
 have hb:=hq i hi _ h1
 simp only at hb
 exact⟨b,o,h1,by rw[zbn w n hn];exact hb,by rw[zb6 w n hb];exact h3⟩⟩
theorem ClAt.doneT{w2 wr:World}{b o:Nat}{l:List FnAt}(h:ClAt w2 b o l l.length wr)(hl:l.length<=2 ^ 63 - 1)(n:Nat)(hn:n<=wr.heap.size)(hb:b < n)(hq:∀ j (hj:j < l.length) a,(l[j]'hj).q=some a->a.block < n):zF (trunc wr n) (some ⟨b,o,none⟩) ((l.map FnAt.f).map zc3):=by
 refine⟨by simpa using hl,fun i hi=>?_⟩
 have hi2:i < l.length:=by simpa using hi
 have h1:=h.fc i hi2
 have h2:=h.ic i hi2
 rw[if_pos hi2] at h2
 refine⟨b,o,(l[i]'hi2).q,(l[i]'hi2).cap,rfl,by rw[zbn wr n hn];exact hb,⟨?_,?_,?_⟩,?_⟩
 ·rw[zb6 wr n hb]
  simpa [zc3] using h1.c0
 ·rw[zb6 wr n hb]
  simpa [zc3] using h1.c1
 ·rw[zb6 wr n hb]
  simpa [zc3,zam] using h1.c2
 ·refine zli ?_ hn (hq i hi2)
  simpa [zc3] using h2.ins
structure LdAt(w1:World)(cd:Cd)(b o:Nat)(l:List FnAt):Prop where
 eq:cd.funs=l.map FnAt.f
 ne:FnsNe l
 lt:b < w1.heap.size
 fc:∀ j (hj:j < l.length),FnCells w1 b (o+j * 3) (l[j]'hj).f (l[j]'hj).q (l[j]'hj).cap
 ic:∀ j (hj:j < l.length),InsC w1 (l[j]'hj).q (l[j]'hj).f.ins
 qb:∀ j (hj:j < l.length) a,(l[j]'hj).q=some a->a.block≠b/\a.block < w1.heap.size
theorem zv5{B:Nat}{w1:World}{cd:Cd}{p':Option Addr}(h:zdm B w1 p' cd.funs)(hn:0 < cd.funs.length):∃ b o l,p'=some ⟨b,o,none⟩/\LdAt w1 cd b o l/\∀ k∈zes l,B<=k:=by
 obtain⟨l,e,hne,hall⟩:=h
 have hl:0 < l.length:=by rw[e] at hn;simpa using hn
 obtain⟨b,o,e1,h1,_⟩:=hall 0 hl
 refine⟨b,o,l,e1,⟨e,hne,h1,fun j hj=>?_,fun j hj=>?_,fun j hj a ha=>?_⟩,fun k hk=>?_⟩
 ·obtain⟨b',o',e2,_,h2,_⟩:=hall j hj
  rw[e1] at e2
  cases e2
  exact h2
 ·obtain⟨b',o',e2,_,_,h2,_⟩:=hall j hj
  exact h2
 ·obtain⟨b',o',e2,_,_,h2,h3⟩:=hall j hj
  rw[e1] at e2
  cases e2
  obtain⟨cur,hc⟩:=h2.obj a ha
  exact⟨(h3 a ha).2,(sz hc)⟩
 ·unfold zes at hk
  obtain⟨x,hx,hm⟩:=List.mem_filterMap.1 hk
  obtain⟨j,hj,rfl⟩:=List.getElem_of_mem hx
  obtain⟨b',o',_,_,_,_,h3⟩:=hall j hj
  cases hq:(l[j]'hj).q with
  | none=>
   rw[hq] at hm
   cases hm
  | some a=>
   rw[hq] at hm
   have:a.block=k:=by simpa using hm
   rw[<-this]
   exact(h3 a hq).1
theorem LdAt.blk{w1:World}{cd:Cd}{b o:Nat}{l:List FnAt}(h:LdAt w1 cd b o l){k:Nat}(hk:k∈zes l):k < w1.heap.size/\k≠b:=by
 unfold zes at hk
 obtain⟨x,hx,hm⟩:=List.mem_filterMap.1 hk
 obtain⟨j,hj,rfl⟩:=List.getElem_of_mem hx
 cases hq:(l[j]'hj).q with
 | none=>
  rw[hq] at hm
  cases hm
 | some a=>
  rw[hq] at hm
  have:a.block=k:=by simpa using hm
  have h2:=h.qb j hj a hq
  rw[<-this]
  exact⟨h2.2,h2.1⟩
theorem LdAt.start{w1 w5:World}{cd:Cd}{b o:Nat}{l:List FnAt}(h:LdAt w1 cd b o l)(hk:Kp [] w1 w5):ClAt w5 b o l 0 w5:=by
 refine⟨fun j hj=>FnCells.kp (h.fc j hj) hk (by simp),fun j hj=>?_,Kp.refl _ _,lL h.lt hk.size⟩
 rw[if_neg (by omega)]
 exact zii (h.ic j hj) hk (by simp)
theorem ztc(w:World)(S:ByteArray)(cells:Int)(ht:Tb w):Calls Tryz.prog 7 #[.string S,.int .i64 cells] w fun e w'=>LoadPost w S cells e w':=by
 have hka:Kp [] w (w.alloc (Obj.cells #[Value.int IntKind.i64 0,Value.int IntKind.i64 0] 30)):=kA
 have ht1:=ht.kp hka
 have Hdec:Hid _:=C12.zwn S (w.alloc (Obj.cells #[Value.int IntKind.i64 0,Value.int IntKind.i64 0] 30)) ht1.sh ht1.et
 have Hka:=zh hka
 have Hfx:Hid ((w.alloc (Obj.cells #[Value.int IntKind.i64 0,Value.int IntKind.i64 0] 30)).heap[w.heap.size]? = some (Obj.cells #[Value.int IntKind.i64 0,Value.int IntKind.i64 0] 30)):=zab w _
 have HT:=zh ht
 have Hz:Hid (w.heap.size < (w.alloc (Obj.cells #[Value.int IntKind.i64 0,Value.int IntKind.i64 0] 30)).heap.size):=by
  unfold Hid
  rw[size_alloc]
  omega
 clear ht hka ht1
 go_enter Tryz.func7,Tryz.ntmps7
 go_wp2_with fail
 refine cM Hdec.o ?_
 generalize w.alloc (Obj.cells #[Value.int IntKind.i64 0,Value.int IntKind.i64 0] 30)=w0 at *
 rintro e w1 ⟨p,cap,p',cap',rfl,hT,hF,hb,hA⟩
 clear Hdec
 have HTx:=zh hT
 have HFu:=zh hF
 have HA:=zh hA
 have H1:Hid (_/\_/\_/\_):=⟨Hka.o.trans (Kp.zB hb),(hb.block _ Hz.o).trans Hfx.o,Hz.o,hb.size⟩
 have Hld:Hid (loadF S cells=if(decR S).2.1≠0 then(decR S).2 else if(decR S).1.chk.1≠0 then(decR S).1.chk else if cells < 0\/1000000 < cells then(21,0) else(0,0)):=rfl
 have Hen:=zh (fun(h:(decR S).2.1=0)=>C12.zwm S h)
 have Hcd:Hid ((decR S).1=(decR S).1):=rfl
 clear hT hF hb hA Hka Hfx Hz
 obtain⟨LF,hLF⟩:∃ LF,LF=loadF S cells:=⟨_,rfl⟩
 rw[<-hLF] at Hld
 have HLF:=zh hLF
 clear hLF
 generalize hD:decR S=D at *
 obtain⟨cd,k,a⟩:=D
 have HD:=zh hD
 clear hD Hcd
 simp only at HTx HFu HA Hld Hen
 simp only
 generalize hnt:cd.texts.length=nt at *
 generalize hnf:cd.funs.length=nf at *
 have Hn:Hid (_/\_):=⟨hnt,hnf⟩
 clear hnt hnf
 go_upto_region 2 with fail
 obtain⟨w2,hw2⟩:∃ w2,w2=(w1.alloc (Obj.cells #[Value.slice p nt cap,Value.slice p' nf cap'] 25)).alloc (Obj.cells #[Value.int IntKind.i64 k,Value.int IntKind.i64 a] 30):=⟨_,rfl⟩
 have Hw2:Hid (Kp [] w1 w2/\w2.heap[w1.heap.size]? = some (Obj.cells #[Value.slice p nt cap,Value.slice p' nf cap'] 25)/\w2.heap[w1.heap.size+1]? = some (Obj.cells #[Value.int IntKind.i64 k,Value.int IntKind.i64 a] 30)):=by
  rw[hw2]
  refine⟨kA.trans kA,zaj (zab w1 _) _,?_⟩
  have:=zab (w1.alloc (Obj.cells #[Value.slice p nt cap,Value.slice p' nf cap'] 25)) (Obj.cells #[Value.int IntKind.i64 k,Value.int IntKind.i64 a] 30)
  rwa [size_alloc] at this
 rw[<-hw2]
 clear hw2
 obtain⟨k2,b2,f2⟩:=Hw2.o
 obtain⟨q1,r1,z1,z2⟩:=H1.o
 have r2:=zad r1 k2
 have Hk2:=zh (Kp.trans q1 k2)
 have Hb2:=zh b2
 have Hf2:=zh f2
 have Hr2:=zh r2
 have Hzz:Hid (_/\_):=⟨z1,z2⟩
 have H12:=zh k2
 clear Hw2 k2 q1 r1 z1 z2 H1
 by_cases hk:k=0
 ·subst hk
  have Hok:=zh (Hen.o rfl)
  have Hc:Hid _:=C12.zuj cd p cap p' cap' w2 (HT.o.kp Hk2.o).sh (HT.o.kp Hk2.o).sg (zF.below HFu.o (Kp.below H12.o (Nat.le_refl _) (by simp))) Hok.o
  rw[Hn.o.1,Hn.o.2] at Hc
  obtain⟨x0,x1,_,_,xl⟩:=za1 b2
  obtain⟨y0,y1,_,_,yl⟩:=za1 f2
  clear b2 f2 r2
  go_wp2_with fail
  refine cM Hc.o ?_
  clear x0 x1 xl y0 y1 yl Hc
  rintro e w3 ⟨rfl,hb3⟩
  have k23:Kp [] w2 w3:=Kp.zB hb3
  have Hchk:=zh (fun(h:cd.chk.1=0)=>zyb Hok.o h)
  have Hld2:Hid (LF=if cd.chk.1≠0 then cd.chk else if cells < 0\/1000000 < cells then(21,0) else(0,0)):=by
   unfold Hid
   have:=Hld.o
   simpa using this
  clear Hld
  generalize cd.chk=ck at *
  obtain⟨ck,ca⟩:=ck
  simp only at Hchk Hld2
  simp only
  have r3:=zad Hr2.o k23
  have b3:=zad Hb2.o k23
  have f3:=zad Hf2.o k23
  have k13:=Kp.trans H12.o k23
  have kw3:=Kp.trans Hk2.o k23
  have Hk3:Hid (_/\_):=⟨kw3,k13⟩
  obtain⟨y0,y1,u0,u1,yl⟩:=za1 f3
  have f4:=zek f3 (.int .i64 ck) (.int .i64 ca)
  have k14:Kp [] w1 ((w3.setCell ⟨w1.heap.size+1,0,none⟩ (.int .i64 ck)).setCell ⟨w1.heap.size+1,1,none⟩ (.int .i64 ca)):=zew k13 (by omega) _ _
  have kw4:Kp [] w ((w3.setCell ⟨w1.heap.size+1,0,none⟩ (.int .i64 ck)).setCell ⟨w1.heap.size+1,1,none⟩ (.int .i64 ca)):=zew kw3 (by have:=Hzz.o;omega) _ _
  have k34:Kp [w1.heap.size+1] w3 ((w3.setCell ⟨w1.heap.size+1,0,none⟩ (.int .i64 ck)).setCell ⟨w1.heap.size+1,1,none⟩ (.int .i64 ca)):=(Kp.setCell (X:=[w1.heap.size+1]) _ _ (by simp) _).trans (Kp.setCell (X:=[w1.heap.size+1]) _ _ (by simp) _)
  have b4:=(k34.block _ (za1 b3).2.2.2.2 (by simp)).trans b3
  have r4:=(k34.block _ (za1 r3).2.2.2.2 (by have:=Hzz.o;simp;omega)).trans r3
  have H4:Hid (_/\_):=⟨kw4,k14⟩
  have Hf4:=zh f4
  have Hb4:=zh b4
  have Hr4:=zh r4
  clear hb3 k23 r3 b3 f3 k13 kw3 f4 k14 kw4 k34 b4 r4 Hk3 Hr2 Hb2 Hf2
  go_upto_region 4 with fail
  generalize ((w3.setCell ⟨w1.heap.size+1,0,none⟩ (.int .i64 ck)).setCell ⟨w1.heap.size+1,1,none⟩ (.int .i64 ca))=w4 at *
  clear y0 y1 u0 u1 yl
  by_cases hck:ck=0
  ·subst hck
   obtain⟨T,hT⟩:=Hchk.o rfl
   have HCd:=zh hT
   have hld3:=Hld2.o
   rw[if_neg (by simp)] at hld3
   clear hT Hchk Hld2
   obtain⟨y0,y1,_,_,yl⟩:=za1 Hf4.o
   by_cases hcl:cells < 0\/1000000 < cells
   ·rw[if_pos hcl] at hld3
    have Hnew:Hid _:=zw5 w4 cells hcl
    obtain⟨_,_,u0,u1,rl⟩:=za1 Hr4.o
    obtain⟨d0,d1,_⟩:=za1 (zek Hr4.o (.int .i64 21) (.int .i64 0))
    have Q:Hid (LoadPost w S cells (.returned (.tuple #[.pointer none,.agg #[.int .i64 21,.int .i64 0]])) ((w4.setCell ⟨w.heap.size,0,none⟩ (.int .i64 21)).setCell ⟨w.heap.size,1,none⟩ (.int .i64 0))):=by
     refine .bad 21 0 _ (by omega) ?_ (zew H4.o.1 (Nat.le_refl _) _ _)
     rw[<-HLF.o]
     exact hld3
    clear hld3 hcl
    go_wp2_with fail
    refine cM Hnew.o ?_
    rintro e w5 ⟨rfl,rfl⟩
    clear Hnew
    go_wp2_with fail
    exact bR (by simp[results,Tryz.results7,go_sem,d0,d1]) Q.o
   ·rw[if_neg hcl] at hld3
    have hce:0<=cells/\cells<=1000000:=by omega
    have Hce:=zh hce
    have HL3:=zh hld3
    have Hnew:Hid _:=zvv w4 cells hce
    clear hld3 hcl hce
    go_wp2_with fail
    refine cM Hnew.o ?_
    rintro e w5 ⟨rfl,hw5⟩
    have Hw5:Hid (Kp [] w4 w5/\w5.heap[w4.heap.size]? = some (.cells #[.int .i64 cells,.int .i64 1,.slice none 0 0] 91)):=by
     rw[hw5]
     exact⟨Kp.alloc [] _ _,zab w4 _⟩
    clear Hnew hw5 y0 y1 yl
    obtain⟨B,hB0,hB1,hB2⟩:=HA.o
    have hfn:=HCd.o.nf.1
    obtain⟨b,o,l,rfl,hL,hBl⟩:=zv5 hB1 (by simpa [zZ] using hfn)
    have hln:l.length=nf:=by
     rw[<-Hn.o.2,hL.eq]
     simp
    have HL:=zh hL
    have HBl:Hid (_/\_/\_):=⟨hB0,hBl,hB2⟩
    have Hcl0:=zh (hL.start (Kp.trans H4.o.2 Hw5.o.1))
    have H5:Hid (Kp [] w w5/\Kp [] w1 w5/\w5.heap[w1.heap.size]? = some (Obj.cells #[Value.slice p nt cap,Value.slice (some ⟨b,o,none⟩) nf cap'] 25)/\w5.heap[w.heap.size]? = some (Obj.cells #[Value.int IntKind.i64 0,Value.int IntKind.i64 0] 30)/\w5.heap[w4.heap.size]? = some (.cells #[.int .i64 cells,.int .i64 1,.slice none 0 0] 91)/\w1.heap.size<=w4.heap.size/\w4.heap.size < w5.heap.size):=⟨Kp.trans H4.o.1 Hw5.o.1,Kp.trans H4.o.2 Hw5.o.1,zad Hb4.o Hw5.o.1,zad Hr4.o Hw5.o.1,Hw5.o.2,H4.o.2.size,(Array.getElem?_eq_some_iff.1 Hw5.o.2).1⟩
    have HFn:Hid (∀ j (hj:j < l.length),0 < (l[j]'hj).f.ins.length/\(l[j]'hj).f.ins.length<=65535/\∀ x∈(l[j]'hj).f.ins,za5 x->0<=x.a/\x.a<=65535):=fun j hj=>by
     have hmem:(l[j]'hj).f∈cd.funs:=by
      rw[hL.eq]
      exact List.mem_map_of_mem (List.getElem_mem hj)
     have hj2:j < (zZ cd).funs.length:=by
      simp only[zZ,List.length_map,hL.eq]
      exact hj
     have h1:=HCd.o.fn j hj2
     have e1:((zZ cd).funs[j]'hj2)=zc3 (l[j]'hj).f:=by
      simp[zZ,hL.eq]
     rw[e1] at h1
     have h2:=h1.pos
     have h3:=h1.len
     simp only[zc3,zam] at h2 h3
     refine⟨h2,h3,fun x hx hs=>znf ?_ hs⟩
     exact(C12.Fn.ok_parts ((C12.Cd.ok_parts Hok.o).2.2 _ hmem)).2.2.2 x hx
    obtain⟨x0,x1,_,_,xl⟩:=za1 H5.o.2.2.1
    have Hln:=zh hln
    clear hB0 hB1 hB2 hfn hL hBl hln HA Hw5
    go_wp2_with fail
    clear x0 x1 xl
    go_loopg [39] nf (fun gm iv wr=>∃ i:Nat,iv=.int .i64 i/\i<=nf/\gm=nf - i/\Hid (ClAt w5 b o l i wr))
    case atStart=>exact⟨0,rfl,by omega,by omega,Hcl0⟩
    case round=>
     clear Hcl0
     obtain⟨i,rfl,hi1,rfl,HQ⟩:=hrel
     by_cases hlt:i < nf
     ·have hltI:(i:Int) < (nf:Int):=by omega
      have hil:i < l.length:=by
       rw[Hln.o]
       exact hlt
      have hwi:IntKind.i64.wrap ((i:Int)+1)=((i+1:Nat):Int):=by
       have h63:=HFu.o.len
       rw[Hn.o.2] at h63
       rw[IntKind.wrap_i64]
       omega
      have hfc:=HQ.o.fc i hil
      have hic:=HQ.o.ic i hil
      rw[if_neg (by omega)] at hic
      obtain⟨hp1,hp2,hp3⟩:=HFn.o i hil
      obtain⟨ib,io,hq,hibl,-⟩:=hic.ins.get 0 hp1
      obtain⟨hib1,hib2⟩:=HL.o.qb i hil _ hq
      simp only at hib1 hib2
      obtain⟨cur,hcur⟩:=hic.obj _ hq
      simp only at hcur
      have HS:=zh (fun w' (h1:InsIn w' (some ⟨ib,io,none⟩) (zC [] (l[i]'hil).f.ins)) (h2:(∃ cur,w'.heap[ib]? = some (.cells cur 44))) (h3:Kp [ib] wr w')=>ClAt.next HQ.o HL.o.ne hil hq hib1 h1 h2 h3)
      generalize l[i]'hil=F at *
      obtain⟨⟨ffree,fslots,fins⟩,fq,fcap⟩:=F
      simp only at hfc hic hp1 hp2 hp3 hq hcur HS
      subst hq
      obtain⟨c0,c1,c2⟩:=hfc
      simp only at c0 c1 c2
      have bl:=World.block_lt_of_cell? _ _ c0
      simp only at bl
      have hka:Kp [] wr (wr.alloc (Obj.cells #[Value.int IntKind.i64 ffree,Value.int IntKind.i64 fslots,Value.slice (some ⟨ib,io,none⟩) fins.length fcap] 47)):=kA
      have Hcu:Hid _:=zlq (wr.alloc (Obj.cells #[Value.int IntKind.i64 ffree,Value.int IntKind.i64 fslots,Value.slice (some ⟨ib,io,none⟩) fins.length fcap] 47)) ib io fcap fins (zii hic hka (by simp)).ins cur (zaj hcur _) hp2 hp3
      have Hlt:Hid (i+1<=nf):=hlt
      clear hic hp1 hp2 hp3 hcur hibl hib1 hib2 hil hlt hi1 hka HQ
      generalize hfl:fins.length=fl at *
      clear hfl
      go_wp2_with fail
      refine cM Hcu.o ?_
      rintro e w7 ⟨rfl,h1,h2,h3⟩
      have HQ:=zh (HS.o w7 h1 h3 ((Kp.alloc [ib] _ _).trans h2))
      clear h1 h2 h3 Hcu HS c0 c1 c2 bl
      go_wp2_with fail
      go_roundg (nf - (i+1))
      case measure=>
       have:=Hlt.o
       omega
      case rel=>exact⟨i+1,by first | rfl | rw[hwi],Hlt.o,rfl,HQ⟩
     ·have hltI:¬ ((i:Int) < (nf:Int)):=by omega
      obtain rfl:i=nf:=by omega
      clear hlt hi1
      go_upto_region 14 with fail
      have hbk:∀ k∈zes l,k < w1.heap.size/\B<=k:=fun k hk=>⟨(HL.o.blk hk).1,HBl.o.2.1 k hk⟩
      have hkc:=HQ.o.kept
      obtain⟨g1,g2,g3,g4,g5,g6,g7⟩:=H5.o
      have hz1:=Hzz.o
      have hB0:=HBl.o.1
      have n1:w1.heap.size∉zes l:=fun h=>by
       have:=hbk _ h
       omega
      have n2:w.heap.size∉zes l:=fun h=>by
       have:=hbk _ h
       omega
      have n3:w4.heap.size∉zes l:=fun h=>by
       have:=hbk _ h
       omega
      have kwr:=Kp.then g1 hkc (fun y hy=>Or.inr (by have:=hbk y hy;omega))
      have r9:=(hkc.block _ (Array.getElem?_eq_some_iff.1 g4).1 n2).trans g4
      have b9:=(hkc.block _ (Array.getElem?_eq_some_iff.1 g3).1 n1).trans g3
      have h9:=(hkc.block _ (Array.getElem?_eq_some_iff.1 g5).1 n3).trans g5
      have HF:Hid (∀ wx,Kp [] wr wx->wx.cell? ⟨w1.heap.size,0,none⟩=some (Value.slice p nt cap)/\wx.cell? ⟨w1.heap.size,1,none⟩=some (Value.slice (some ⟨b,o,none⟩) i cap')/\w1.heap.size < wx.heap.size):=fun wx hx=>by
       obtain⟨x0,x1,_,_,xl⟩:=za1 (zad b9 hx)
       exact⟨x0,x1,xl⟩
      have HT9:=zh (fun wx (hx:Kp [] wr wx)=>HT.o.kp (kwr.trans hx))
      have H9:Hid (Kp [] w wr/\wr.heap[w.heap.size]? = some (Obj.cells #[Value.int IntKind.i64 0,Value.int IntKind.i64 0] 30)/\wr.heap[w4.heap.size]? = some (.cells #[.int .i64 cells,.int .i64 1,.slice none 0 0] 91)/\w4.heap.size < wr.heap.size):=⟨kwr,r9,h9,(Array.getElem?_eq_some_iff.1 h9).1⟩
      have Hdr:Hid (Kp [] wr wr.drew):=(Kp.refl _ _).drew
      clear hbk hkc g1 g2 g3 g4 g5 g6 g7 hz1 hB0 n1 n2 n3 kwr r9 b9 h9 hltI
      refine zao (C:=fun wx=>Kp [] wr wx) (by kernel_rfl) ?_
      refine rA (i:=0) rfl ?_
      apply Exists.intro
      refine⟨.inl ⟨by kernel_rfl,fun wx hwx=>?_⟩,?_⟩
      (obtain⟨x0,x1,xl⟩:=HF.o wx hwx;go_simp <;> first | with_reducible rfl)
      refine rA (i:=1) rfl ?_
      apply Exists.intro
      refine⟨.inl ⟨by kernel_rfl,fun wx hwx=>?_⟩,?_⟩
      (go_simp <;> first | with_reducible rfl)
      refine zby (i:=2) Hdr.o rfl (by kernel_rfl) (fun K hK=>?_)
      go_simp
      refine cM (zo8 _ (HT9.o _ Hdr.o).sg) ?_
      rintro e9 w9 ⟨rfl,hw9⟩
      refine hK _ _ ?_
      clear hK K
      have Hs9:=zh (Kp.trans Hdr.o hw9)
      clear hw9
      refine zby (i:=3) Hs9.o rfl (by kernel_rfl) (fun K hK=>?_)
      go_simp
      refine cM (zrt _ (HT9.o _ Hs9.o).bs) ?_
      rintro e10 w10 ⟨rfl,hw10⟩
      refine hK _ _ ?_
      clear hK K
      have Hs10:=zh (Kp.trans Hs9.o hw10)
      clear hw10
      unfold signV baseV sg
      refine rA (i:=4) rfl ?_
      apply Exists.intro
      refine⟨.inl ⟨by kernel_rfl,fun wx hwx=>?_⟩,?_⟩
      (go_simp <;> first | with_reducible rfl)
      refine zby (i:=5) Hs10.o rfl (by kernel_rfl) (fun K hK=>?_)
      go_simp
      refine hK _ _ ?_
      clear hK K
      obtain⟨w11,hw11⟩:∃ w11,w11=w10.alloc (Obj.cells #[Value.slice p nt cap,Value.slice (some ⟨b,o,none⟩) i cap',Value.pointer (some ⟨w4.heap.size,0,none⟩),Value.string ⟨#[43]⟩,Value.string ⟨#[45]⟩,Value.string ⟨#[42]⟩,Value.string ⟨#[47]⟩,Value.string ⟨#[37]⟩,Value.string ⟨#[60]⟩,Value.string ⟨#[60,61]⟩,Value.string ⟨#[62]⟩,Value.string ⟨#[62,61]⟩,Value.string ⟨#[61]⟩,Value.string ⟨#[60,62]⟩,Value.string ⟨#[94]⟩,Value.string ⟨#[33]⟩,Value.string ⟨#[58,61]⟩,Value.string ⟨#[126]⟩,Value.string ⟨#[110,111,116]⟩,Value.string ⟨#[112,114,105,110,116]⟩,Value.string ⟨#[115,116,114]⟩,Value.string ⟨#[115,105,122,101]⟩,Value.string ⟨#[115,117,98]⟩,Value.string ⟨#[112,97,114,116]⟩,Value.string ⟨#[99,104,114]⟩,Value.string ⟨#[114,101,102]⟩,Value.string ⟨#[97,114,114,97,121]⟩,Value.string ⟨#[108,101,110,103,116,104]⟩,Value.string ⟨#[97,116]⟩,Value.string ⟨#[112,117,116]⟩,Value.slice none 0 0,Value.slice none 0 0,Value.slice none 0 0,Value.slice none 0 0,Value.int IntKind.i64 0,Value.string ⟨#[]⟩,Value.slice none 0 0,Value.int IntKind.i64 0] 64):=⟨_,rfl⟩
      have hb11:w11.heap[w10.heap.size]? = some (Obj.cells #[Value.slice p nt cap,Value.slice (some ⟨b,o,none⟩) i cap',Value.pointer (some ⟨w4.heap.size,0,none⟩),Value.string ⟨#[43]⟩,Value.string ⟨#[45]⟩,Value.string ⟨#[42]⟩,Value.string ⟨#[47]⟩,Value.string ⟨#[37]⟩,Value.string ⟨#[60]⟩,Value.string ⟨#[60,61]⟩,Value.string ⟨#[62]⟩,Value.string ⟨#[62,61]⟩,Value.string ⟨#[61]⟩,Value.string ⟨#[60,62]⟩,Value.string ⟨#[94]⟩,Value.string ⟨#[33]⟩,Value.string ⟨#[58,61]⟩,Value.string ⟨#[126]⟩,Value.string ⟨#[110,111,116]⟩,Value.string ⟨#[112,114,105,110,116]⟩,Value.string ⟨#[115,116,114]⟩,Value.string ⟨#[115,105,122,101]⟩,Value.string ⟨#[115,117,98]⟩,Value.string ⟨#[112,97,114,116]⟩,Value.string ⟨#[99,104,114]⟩,Value.string ⟨#[114,101,102]⟩,Value.string ⟨#[97,114,114,97,121]⟩,Value.string ⟨#[108,101,110,103,116,104]⟩,Value.string ⟨#[97,116]⟩,Value.string ⟨#[112,117,116]⟩,Value.slice none 0 0,Value.slice none 0 0,Value.slice none 0 0,Value.slice none 0 0,Value.int IntKind.i64 0,Value.string ⟨#[]⟩,Value.slice none 0 0,Value.int IntKind.i64 0] 64):=by
       rw[hw11]
       exact zab w10 _
      have k11:Kp [] wr w11:=by
       rw[hw11]
       exact Kp.trans Hs10.o kA
      rw[<-hw11]
      have z10:=Hs10.o.size
      clear hw11 HF HT9 Hdr Hs9 Hs10
      have Hs11:=zh k11
      have HJ:Hid (∃ X:Fx,X.mm=w10.heap.size/\J X w11 Pg.zero AM.zero (fun _ _=>False)/\Env X/\X.cd=zZ cd/\X.cells=cells/\Kp [] w X.wc/\X.wc.heap[w.heap.size]? = some (Obj.cells #[Value.int IntKind.i64 0,Value.int IntKind.i64 0] 30)):=by
       obtain⟨q1,q2,q3,q4⟩:=H9.o
       have s11:=k11.size
       have hn4:w4.heap.size<=w11.heap.size:=by omega
       have hz1:=Hzz.o
       have h46:=H5.o.2.2.2.2.2.1
       have kT:=ztg ((Kp.trans q1 k11).below (Nat.le_refl _) (by simp)) (by omega) hn4
       have hTb:=HT.o.kp kT
       have htx1:=zX.below HTx.o (H5.o.2.1.below (Nat.le_refl _) (by simp))
       have htx2:zX w11 p cd.texts:=⟨htx1.len,fun j hj=>by
        obtain⟨b',o',e1,e2,e3⟩:=htx1.get j hj
        have hB2:=HBl.o.2.2 _ e1
        refine⟨b',o',e1,?_,k11.cell (HQ.o.kept.cell e3 (fun hx=>?_)) (by simp)⟩
        ·exact lL e2 (Nat.le_trans HQ.o.kept.size s11)
        ·have:=HBl.o.2.1 _ hx
         simp only at this hB2
         omega⟩
       have htx3:zX (trunc w11 w4.heap.size) p cd.texts:=zh5 htx2 hn4 (fun j hj a' ha=>by
        obtain⟨b',o',e1,e2,_⟩:=HTx.o.get j hj
        rw[ha] at e1
        cases e1
        simp only
        omega)
       have hc11:=HQ.o.keep k11
       rw[<-Hln.o] at hc11
       have hfu:=ClAt.doneT hc11 (by rw[Hln.o];have:=HFu.o.len;rw[Hn.o.2] at this;exact this) w4.heap.size hn4 (by have:=HL.o.lt;omega) (fun j hj a' ha=>by have:=(HL.o.qb j hj a' ha).2;omega)
       have efu:(l.map FnAt.f).map zc3=(zZ cd).funs:=by
        simp only[zZ,HL.o.eq]
       rw[efu] at hfu
       refine⟨⟨trunc w11 w4.heap.size,w10.heap.size,w4.heap.size,w11.heap.size,p,cap,some ⟨b,o,none⟩,cap',zZ cd,cells⟩,rfl,?_,⟨hTb.lib,hTb.ex,htx3,hfu,hTb.sh,hTb.sg⟩,rfl,rfl,kT,(zey w11 w4.heap.size (by omega)).trans (zad q2 k11)⟩
       refine J.zero _ _ ?_ (zad q3 k11) (zkq _ _ hn4) ?_ ?_ ?_ (Nat.le_refl _) Hce.o
       ·have e1:(zZ cd).texts.length=nt:=Hn.o.1
        have e2:(zZ cd).funs.length=i:=by
         simp only[zZ,List.length_map]
         exact Hn.o.2
        show _=some (Obj.cells (MF.arr ⟨p,(zZ cd).texts.length,cap,some ⟨b,o,none⟩,(zZ cd).funs.length,cap',w4.heap.size,.slice none 0 0,.slice none 0 0,.slice none 0 0,.slice none 0 0,0,⟨#[]⟩,.slice none 0 0,((0:Nat):Int)⟩) 64)
        rw[e1,e2]
        exact hb11
       ·simp only[zbn _ _ hn4]
        omega
       ·simp only[zbn _ _ hn4]
        omega
       ·simp only[zbn _ _ hn4]
        exact hn4
      clear hb11 k11 z10
      refine rA (i:=6) rfl ?_
      apply Exists.intro
      refine⟨.inl ⟨by kernel_rfl,fun wx hwx=>?_⟩,?_⟩
      (go_simp <;> first | with_reducible rfl)
      refine zag Hs11.o (by kernel_rfl) ?_
      go_simp
      obtain⟨X,hmm,hJ,hE,hXc,hXe,hXk,hXs⟩:=HJ.o
      have Hen17:Hid _:=zg2 hJ 0 default default default default 0 0 0 0 ⟨rfl,fun _=>rfl,(fun h=>by cases h)⟩ (by unfold wfC;decide) ⟨rfl,fun _=>rfl,(fun h=>by cases h)⟩ (by unfold wfC;decide) (by decide)
      rw[hmm] at Hen17
      have HX:Hid (_/\_/\_/\_/\_/\_):=⟨hmm,hE,hXc,hXe,hXk,hXs⟩
      clear hmm hJ hE hXc hXe hXk hXs HJ
      go_wp2_with fail
      refine cM Hen17.o ?_
      rintro e w12 ⟨rfl,g',hJ,hMv⟩
      clear Hen17
      have r12:w12.heap[w.heap.size]? = some (Obj.cells #[Value.int IntKind.i64 0,Value.int IntKind.i64 0] 30):=by
       have hX:=HX.o.2.2.2.2.2
       exact(hJ.bl.block _ (Array.getElem?_eq_some_iff.1 hX).1).trans hX
      obtain⟨d0,d1,u0,u1,rl⟩:=za1 r12
      have hsame:=zpb r12
      have Q:Hid (LoadPost w S cells (.returned (.tuple #[.pointer (some ⟨w10.heap.size,0,none⟩),.agg #[.int .i64 0,.int .i64 0]])) w12):=by
       obtain⟨hmm,hE,hXc,hXe,hXk,hXs⟩:=HX.o
       rw[<-hmm]
       refine .good X g' _ T w12 ?_ hJ hE ?_ ?_ hXe hXk
       ·rw[<-HLF.o]
        exact HL3.o
       ·rw[hXc]
        exact HCd.o
       ·rw[hXc,HD.o]
      clear hJ hMv r12
      go_wp2_with fail
      exact bR (by simp[results,Tryz.results7,go_sem,d0,d1]) Q.o
  ·have hckb:(ck == 0)=false:=by simpa using hck
   have hckn:(ck != 0)=true:=by simpa using hck
   obtain⟨y0,y1,_,_,yl⟩:=za1 Hf4.o
   obtain⟨_,_,u0,u1,rl⟩:=za1 Hr4.o
   obtain⟨d0,d1,_⟩:=za1 (w1:=((w4.setCell ⟨w.heap.size,0,none⟩ (.int .i64 ck)).setCell ⟨w.heap.size,1,none⟩ (.int .i64 ca)).drew) (zek Hr4.o (.int .i64 ck) (.int .i64 ca))
   have Q:Hid (LoadPost w S cells (.returned (.tuple #[.pointer none,.agg #[.int .i64 ck,.int .i64 ca]])) ((w4.setCell ⟨w.heap.size,0,none⟩ (.int .i64 ck)).setCell ⟨w.heap.size,1,none⟩ (.int .i64 ca)).drew):=by
    refine .bad ck ca _ hck ?_ (Kp.drew (zew H4.o.1 (Nat.le_refl _) _ _))
    have e:=Hld2.o
    rw[if_pos hck] at e
    rw[<-HLF.o]
    exact e
   clear Hld2 hck
   go_wp2_with fail
   go_region
   all_goals go_wp2_with fail
   all_goals exact bR (by simp[results,Tryz.results7,go_sem,d0,d1]) Q.o
 ·have hkb:(k == 0)=false:=by simpa using hk
  obtain⟨y0,y1,_,_,yl⟩:=za1 f2
  obtain⟨_,_,u0,u1,rl⟩:=za1 r2
  obtain⟨d0,d1,_⟩:=za1 (w1:=((w2.setCell ⟨w.heap.size,0,none⟩ (.int .i64 k)).setCell ⟨w.heap.size,1,none⟩ (.int .i64 a)).drew) (zek r2 (.int .i64 k) (.int .i64 a))
  have Q:Hid (LoadPost w S cells (.returned (.tuple #[.pointer none,.agg #[.int .i64 k,.int .i64 a]])) ((w2.setCell ⟨w.heap.size,0,none⟩ (.int .i64 k)).setCell ⟨w.heap.size,1,none⟩ (.int .i64 a)).drew):=by
   refine .bad k a _ hk ?_ (Kp.drew (zew Hk2.o (Nat.le_refl _) _ _))
   unfold loadF
   rw[HD.o]
   simp[hk]
  clear Hld Hen hk b2 f2 r2
  go_wp2_with fail
  go_region
  all_goals go_wp2_with fail
  all_goals exact bR (by simp[results,Tryz.results7,go_sem,d0,d1]) Q.o
end Go.Proofs.YtkcmachfagcnaaaGreatDoor
