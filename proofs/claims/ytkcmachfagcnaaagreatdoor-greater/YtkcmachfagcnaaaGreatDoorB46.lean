/- Part of Greater. -/
import Derived.Test.YtkcmachfagcnaaaGreatDoorB45
set_option maxHeartbeats 8000000
set_option maxRecDepth 100000
namespace Go.Proofs.YtkcmachfagcnaaaGreatDoor
open Go.RowKit Go.Deep Go.IntWalk
open C12 (zX zF InsIn InsC FnCells FnAt FnsNe zdm Cd Fn In zT decR zrd)
def zSG:Cd:=⟨[],[⟨0,1,[⟨0,7,0⟩,⟨7,0,1⟩,⟨6,0,0⟩,⟨0,1,0⟩,⟨17,0,0⟩]⟩]⟩
theorem zje:zSG.ok=true/\zSG.bytes.length<=4000000/\zSG.chk=(0,0)/\zSG.enc.2=0:=by decide +kernel
def bytesG(c:Cd):List UInt8:=if c.enc.2=0 then c.enc.1 else zSG.enc.1
theorem zm9(w:World)(a b:Obj):((w.alloc a).alloc b).heap[w.heap.size]? = some a/\((w.alloc a).alloc b).heap[w.heap.size+1]? = some b/\Kp [] w ((w.alloc a).alloc b):=by
 refine⟨zaj (zab w a) b,?_,kA.trans kA⟩
 have:=zab (w.alloc a) b
 rwa [size_alloc] at this
theorem zjd(w:World)(hS:C12.ShIn w)(hW:C12.WdIn w):Calls Tryz.prog 5 #[] w fun e w'=>e=.returned (.string ⟨zSG.enc.1.toArray⟩)/\Kp [] w w':=by
 obtain⟨b1,b2,hk⟩:=zm9 w (.cells #[.int .i64 0,.int .i64 7,.int .i64 0,.int .i64 7,.int .i64 0,.int .i64 1,.int .i64 6,.int .i64 0,.int .i64 0,.int .i64 0,.int .i64 1,.int .i64 0,.int .i64 17,.int .i64 0,.int .i64 0] 44) (.cells #[.int .i64 0,.int .i64 1,.slice (some ⟨w.heap.size,0,none⟩) 5 5] 47)
 generalize hw2:(w.alloc (.cells #[.int .i64 0,.int .i64 7,.int .i64 0,.int .i64 7,.int .i64 0,.int .i64 1,.int .i64 6,.int .i64 0,.int .i64 0,.int .i64 0,.int .i64 1,.int .i64 0,.int .i64 17,.int .i64 0,.int .i64 0] 44)).alloc (.cells #[.int .i64 0,.int .i64 1,.slice (some ⟨w.heap.size,0,none⟩) 5 5] 47)=w2 at *
 have hbl:=hk.below (Nat.le_refl _) (by simp)
 have l1:=(sz b1)
 have l2:=(sz b2)
 have hF:zF w2 (some ⟨w.heap.size+1,0,none⟩) zSG.funs:=by
  refine⟨by simp[zSG],fun i hi=>?_⟩
  obtain rfl:i=0:=by simp[zSG] at hi;exact hi
  refine⟨_,_,some ⟨w.heap.size,0,none⟩,5,rfl,l2,⟨by simp only[World.cell?,b2];rfl,by simp only[World.cell?,b2];rfl,by simp only[World.cell?,b2];rfl⟩,⟨by simp[zSG],fun j hj=>?_⟩⟩
  obtain rfl | rfl | rfl | rfl | rfl:j=0\/j=1\/j=2\/j=3\/j=4:=by simp[zSG] at hj;omega
  all_goals exact⟨_,_,rfl,l1,by simp only[World.cell?,b1];rfl,by simp only[World.cell?,b1];rfl,by simp only[World.cell?,b1];rfl⟩
 have hT:zX w2 none zSG.texts:=⟨by simp[zSG],fun i hi=>absurd hi (by simp[zSG])⟩
 have hcall:=zrd zSG none 0 (some ⟨w.heap.size+1,0,none⟩) 1 w2 (hS.below hbl) (hW.below hbl) hT hF
 have Hcall:Hid (Calls Tryz.prog 10 #[.agg #[.slice none 0 0,.slice (some ⟨w.heap.size+1,0,none⟩) 1 1]] w2 fun e w'=>e=.returned (.tuple #[.string {data:=zSG.enc.1.toArray},.int .i64 0])/\Below w2.heap.size w2 w'):=by
  have:=zje.2.2.2
  rw[this] at hcall
  exact hcall
 have Hk:=zh hk
 clear hS hW hbl b1 b2 hk l1 l2 hF hT hcall
 generalize zSG.enc.1.toArray=z at *
 go_enter Tryz.func5,Tryz.ntmps5
 go_wp2_with fail
 try rw[hw2]
 refine cM Hcall.o ?_
 rintro e w3 ⟨rfl,hb⟩
 have Q:Hid _:=Kp.trans Hk.o (Kp.zB hb)
 clear hb
 go_wp2_with fail
 exact bR (by simp[results,Tryz.results5,go_sem]) ⟨rfl,Q.o⟩
theorem zrq(w:World)(hS:C12.ShIn w)(hW:C12.WdIn w)(c:Cd)(p:Option Addr)(cap:Nat)(p':Option Addr)(cap':Nat)(hT:zX w p c.texts)(hF:zF w p' c.funs):Calls Tryz.prog 6 #[.agg #[.slice p c.texts.length cap,.slice p' c.funs.length cap']] w fun e w'=>e=.returned (.string ⟨(bytesG c).toArray⟩)/\Kp [] w w':=by
 have hk:Kp [] w (w.alloc (.cells #[.slice p c.texts.length cap,.slice p' c.funs.length cap'] 25)):=kA
 have hbl:=hk.below (Nat.le_refl _) (by simp)
 have Hk:=zh hk
 have HS:Hid _:=hS.below hbl
 have HW:Hid _:=hW.below hbl
 have Hcall:Hid _:=zrd c p cap p' cap' _ (hS.below hbl) (hW.below hbl) (hT.below hbl) (hF.below hbl)
 have hg:bytesG c=if c.enc.2=0 then c.enc.1 else zSG.enc.1:=rfl
 have Hg:=zh hg
 clear hg hbl hk hS hW hT hF
 generalize c.texts.length=nt at *
 generalize c.funs.length=nf at *
 generalize bytesG c=z at *
 generalize c.enc=en at *
 obtain⟨e1,e2⟩:=en
 simp only at *
 go_enter Tryz.func6,Tryz.ntmps6
 go_wp2_with fail
 generalize w.alloc _=w1 at *
 refine cM Hcall.o ?_
 rintro e w2 ⟨rfl,hb⟩
 have Hk2:Hid _:=Kp.trans Hk.o (Kp.zB hb)
 have Hsm:Hid _:=zjd w2 (C12.ShIn.below HS.o hb) (C12.WdIn.below HW.o hb)
 clear hb
 by_cases hz:e2=0
 ·subst hz
  have hz1:z=e1:=by
   have:=Hg.o
   simpa using this
  subst hz1
  go_wp2_with fail
  exact bR (by simp[results,Tryz.results6,go_sem]) ⟨rfl,Hk2.o⟩
 ·have hz1:z=zSG.enc.1:=by
   have:=Hg.o
   simpa [hz] using this
  have hzb:(e2 == 0)=false:=by simpa using hz
  rw[<-hz1] at Hsm
  clear hz1
  go_wp2_with fail
  refine cM Hsm.o ?_
  rintro e w3 ⟨rfl,hk3⟩
  have Q:Hid _:=Kp.trans Hk2.o hk3
  clear hk3
  go_wp2_with fail
  exact bR (by simp[results,Tryz.results6,go_sem]) ⟨rfl,Q.o⟩
theorem zw3:Tryz.prog.underlying 30=some (.struct (Tryz.prog.fieldsOf 30)):=by kernel_rfl
theorem zxj:Tryz.prog.stoodInHeld 30=false:=by kernel_rfl
end Go.Proofs.YtkcmachfagcnaaaGreatDoor
namespace Go.Proofs.YtkcmachfagcnaaaGreatDoor
open Go.RowKit Go.Deep Go.IntWalk
open C12 (Cd Fn In zT decR)
noncomputable def tellM(S:ByteArray)(cells:Int)(n:Nat):AM:=if(loadF S cells).1=0 then AM.run (room cells) (zZ (decR S).1) n AM.start else AM.zero
inductive MSt(S:ByteArray)(cells:Int)(n:Nat)(w:World)(L:List Nat):Option Addr->World->Prop
 | non (w1:World) (hf:(loadF S cells).1≠0) (hk:Kp [] w w1) (hl:∀ b∈L,b < w1.heap.size):MSt S cells n w L none w1
 | som (X:Fx) (g:Pg) (R:Int->Int->Prop) (T:Nat->Nat->Nat) (w1:World) (hf:loadF S cells=(0,0)) (hJ:J X w1 g (AM.run (room cells) (zZ (decR S).1) n AM.start) R) (E:Env X) (hc:CdOk X.cd T) (hcd:X.cd=zZ (decR S).1) (hce:X.cells=cells) (hb:Kp [] w X.wc) (hl:∀ b∈L,Off X w1 g b):MSt S cells n w L (some ⟨X.mm,0,none⟩) w1
theorem MSt.kp{S:ByteArray}{cells:Int}{n:Nat}{w w1 w2:World}{L:List Nat}{q:Option Addr}(h:MSt S cells n w L q w1)(hk:Kp [] w1 w2):MSt S cells n w L q w2:=by
 cases h with
 | non _ hf h1 hl=>exact .non _ hf (h1.trans hk) (fun b hb=>lL (hl b hb) hk.size)
 | som X g R T _ hf hJ E hc hcd hce hb hl=>exact .som X g R T _ hf (hJ.kp hk) E hc hcd hce hb (fun b hb=>⟨lL (hl b hb).1 hk.size,(hl b hb).2⟩)
theorem MSt.box{S:ByteArray}{cells:Int}{n:Nat}{w w1:World}{L:List Nat}{q:Option Addr}(h:MSt S cells n w L q w1)(o:Obj):MSt S cells n w (L++[w1.heap.size]) q (w1.alloc o):=by
 have hk:Kp [] w1 (w1.alloc o):=kA
 cases h with
 | non _ hf h1 hl=>exact .non _ hf (h1.trans hk) (fun b hb=>by
   rw[size_alloc]
   rcases List.mem_append.1 hb with h2 | h2
   ·have:=hl b h2
    omega
   ·rw[List.mem_singleton.1 h2]
    omega)
 | som X g R T _ hf hJ E hc hcd hce hb hl=>
  obtain⟨j1,m1,a1,o1⟩:=zbe hJ o
  exact .som X g R T _ hf j1 E hc hcd hce hb (fun b hb=>by
   rcases List.mem_append.1 hb with h2 | h2
   ·exact⟨lL (hl b h2).1 hk.size,(hl b h2).2⟩
   ·rw[List.mem_singleton.1 h2]
    exact o1)
theorem MSt.frame{S:ByteArray}{cells:Int}{n:Nat}{w w1:World}{L:List Nat}{q:Option Addr}(h:MSt S cells n w L q w1):Kp [] w w1:=by
 cases h with
 | non _ hf h1 hl=>exact h1
 | som X g R T _ hf hJ E hc hcd hce hb hl=>exact hb.trans (Kp.zB hJ.bl)
theorem zmd(w:World)(S:ByteArray)(cells:Int)(ht:Tb w):Calls Tryz.prog 7 #[.string S,.int .i64 cells] w fun e w1=>∃ q,e=.returned (.tuple #[.pointer q,.agg #[.int .i64 (loadF S cells).1,.int .i64 (loadF S cells).2]])/\MSt S cells 0 w [] q w1:=by
 refine cM (ztc w S cells ht) ?_
 intro e w1 h
 cases h with
 | bad k a w' hk hf hb=>
  refine⟨none,?_,.non _ ?_ hb (fun b hb=>nomatch hb)⟩
  ·rw[hf]
  ·rw[hf]
   exact hk
 | good X g R T w' hf hJ E hc hcd hce hb=>
  refine⟨_,?_,.som X g R T _ hf hJ E hc hcd hce hb (fun b hb=>nomatch hb)⟩
  rw[hf]
theorem zme{S:ByteArray}{cells:Int}{n:Nat}{w w1:World}{L:List Nat}{q:Option Addr}(h:MSt S cells n w L q w1)(hn:n<=900000000)(m:Int):Calls Tryz.prog 8 #[.pointer q,.int .i64 m] w1 fun e w2=>∃ v,e=.returned (.int .i64 v)/\MSt S cells (n+(min m 1000000).toNat) w L q w2/\∀ b∈L,w2.heap[b]? = w1.heap[b]?:=by
 cases h with
 | non _ hf h1 hl=>
  refine cM (zq2 w1 m) ?_
  rintro e w2 ⟨rfl,hk⟩
  exact⟨0,rfl,.non _ hf (h1.trans hk) (fun b hb=>lL (hl b hb) hk.size),fun b hb=>hk.block b (hl b hb) (by simp)⟩
 | som X g R T _ hf hJ E hc hcd hce hb hl=>
  have hgo:GoOk X.cd T (0+n) (AM.run (room cells) X.cd n AM.start):=GoOk.run hc n 0 _ (zsl hc)
  rw[hcd] at hgo
  refine cM (zxk (T:=T) (k:=n) hJ E hc (by rw[hcd];rw[Nat.zero_add] at hgo;exact hgo) (by omega) m) ?_
  intro e w2 h2
  cases h2 with
  | mk v _ g' R' hJ' hm=>
   refine⟨v,rfl,.som X g' R' T _ hf ?_ E hc hcd hce hb (fun b hb=>((hl b hb).mv hm).1),fun b hb=>((hl b hb).mv hm).2⟩
   rw[zpc]
   rw[hce,hcd] at hJ'
   exact hJ'
theorem zmc{S:ByteArray}{cells:Int}{n:Nat}{w w1:World}{L:List Nat}{q:Option Addr}(h:MSt S cells n w L q w1):Calls Tryz.prog 9 #[.pointer q] w1 fun e w2=>e=.returned (.agg #[.int .i64 (tellM S cells n).kind,.string (tellM S cells n).name,.string ⟨(tellM S cells n).out.toArray⟩,.int .i64 ((tellM S cells n).steps:Nat)])/\Kp [] w1 w2:=by
 cases h with
 | non _ hf h1 hl=>
  refine cM (zky w1) ?_
  rintro e w2 ⟨rfl,hk⟩
  refine⟨?_,hk⟩
  unfold tellM
  rw[if_neg hf]
  rfl
 | som X g R T _ hf hJ E hc hcd hce hb hl=>
  have e1:tellM S cells n=AM.run (room cells) (zZ (decR S).1) n AM.start:=by
   unfold tellM
   rw[if_pos (by rw[hf])]
  rw[e1]
  exact zsg hJ
theorem zuv:Tryz.prog.underlying 27=some (.struct (Tryz.prog.fieldsOf 27)):=by kernel_rfl
theorem zu3:Tryz.prog.stoodInHeld 27=false:=by kernel_rfl
theorem neq30(a b:Int)(w:World):(binOp .neq 30 (.agg #[.int .i64 a,.int .i64 b]) (.agg #[.int .i64 a,.int .i64 b])).run Tryz.prog w=.ok (.bool false) w:=by
 have u3:=Tryz.underlying3
 have u28:=Tryz.underlying28
 rw[run_neq_struct,show(10000:Nat)=9999+1 from rfl,run_equalIn_agg w 9999 30 _ _ zw3 zxj]
 simp only[Program.fieldsOf,Tryz.underlying30]
 go_simp
theorem neq27(a:Int)(b c:ByteArray)(d:Int)(w:World):(binOp .neq 27 (.agg #[.int .i64 a,.string b,.string c,.int .i64 d]) (.agg #[.int .i64 a,.string b,.string c,.int .i64 d])).run Tryz.prog w=.ok (.bool false) w:=by
 have u3:=Tryz.underlying3
 have u9:=Tryz.underlying9
 rw[run_neq_struct,show(10000:Nat)=9999+1 from rfl,run_equalIn_agg w 9999 27 _ _ zuv zu3]
 simp only[Program.fieldsOf,Tryz.underlying27]
 go_simp
theorem eql27(a:Int)(b c:ByteArray)(d:Int)(w:World):(binOp .eql 27 (.agg #[.int .i64 a,.string b,.string c,.int .i64 d]) (.agg #[.int .i64 a,.string b,.string c,.int .i64 d])).run Tryz.prog w=.ok (.bool true) w:=by
 have u3:=Tryz.underlying3
 have u9:=Tryz.underlying9
 rw[run_eql_struct,show(10000:Nat)=9999+1 from rfl,run_equalIn_agg w 9999 27 _ _ zuv zu3]
 simp only[Program.fieldsOf,Tryz.underlying27]
 go_simp
theorem zb1{w1:World}{b t:Nat}{c0 c1 c2 c3:Value}(hb:w1.heap[b]? = some (.cells #[c0,c1,c2,c3] t)):w1.cell? ⟨b,0,none⟩=some c0/\w1.cell? ⟨b,1,none⟩=some c1/\w1.cell? ⟨b,2,none⟩=some c2/\w1.cell? ⟨b,3,none⟩=some c3/\(∀ i,w1.frozen? ⟨b,i,none⟩=false)/\b < w1.heap.size:=by
 refine⟨?_,?_,?_,?_,fun i=>?_,(sz hb)⟩ <;> simp[World.cell?,World.frozen?,hb]
theorem ziq{w1:World}{b t:Nat}{c0 c1 c2 c3:Value}(hb:w1.heap[b]? = some (.cells #[c0,c1,c2,c3] t))(u0 u1 u2 u3:Value):((((w1.setCell ⟨b,0,none⟩ u0).setCell ⟨b,1,none⟩ u1).setCell ⟨b,2,none⟩ u2).setCell ⟨b,3,none⟩ u3).heap[b]? = some (.cells #[u0,u1,u2,u3] t):=by
 simp[World.setCell,Array.getElem?_modify,hb]
theorem kp4(w2:World)(b:Nat)(u0 u1 u2 u3:Value):Kp [b] w2 ((((w2.setCell ⟨b,0,none⟩ u0).setCell ⟨b,1,none⟩ u1).setCell ⟨b,2,none⟩ u2).setCell ⟨b,3,none⟩ u3):=((((Kp.setCell (X:=[b]) _ _ (by simp) _).trans (Kp.setCell (X:=[b]) _ _ (by simp) _)).trans (Kp.setCell (X:=[b]) _ _ (by simp) _)).trans (Kp.setCell (X:=[b]) _ _ (by simp) _))
theorem zlh{w w2:World}{b:Nat}(h:Kp [] w w2)(hb:w.heap.size<=b)(u0 u1 u2 u3:Value):Kp [] w ((((w2.setCell ⟨b,0,none⟩ u0).setCell ⟨b,1,none⟩ u1).setCell ⟨b,2,none⟩ u2).setCell ⟨b,3,none⟩ u3):=h.then (kp4 _ _ _ _ _ _) (fun y hy=>Or.inr (by rw[List.mem_singleton.1 hy];exact hb))
theorem zic(w:World)(S:ByteArray)(cells fuel:Int)(ht:Tb w):Calls Tryz.prog 4 #[.string S,.int .i64 cells,.int .i64 fuel] w fun e w'=>e=.returned (.tuple #[.agg #[.int .i64 (tellM S cells (min fuel 1000000).toNat).kind,.string (tellM S cells (min fuel 1000000).toNat).name,.string ⟨(tellM S cells (min fuel 1000000).toNat).out.toArray⟩,.int .i64 ((tellM S cells (min fuel 1000000).toNat).steps:Nat)],.agg #[.int .i64 (loadF S cells).1,.int .i64 (loadF S cells).2]])/\Kp [] w w':=by
 obtain⟨w0,hw0⟩:∃ w0,w0=(w.alloc (.cells #[.int .i64 0,.string ⟨#[]⟩,.string ⟨#[]⟩,.int .i64 0] 27)).alloc (.cells #[.int .i64 0,.int .i64 0] 30):=⟨_,rfl⟩
 have hk0:Kp [] w w0:=by
  rw[hw0]
  exact kA.trans kA
 have ho0:w0.heap[w.heap.size]? = some (.cells #[.int .i64 0,.string ⟨#[]⟩,.string ⟨#[]⟩,.int .i64 0] 27):=by
  rw[hw0]
  exact zaj (zab w _) _
 have hf0:w0.heap[w.heap.size+1]? = some (.cells #[.int .i64 0,.int .i64 0] 30):=by
  rw[hw0]
  have:=zab (w.alloc (.cells #[.int .i64 0,.string ⟨#[]⟩,.string ⟨#[]⟩,.int .i64 0] 27)) (.cells #[.int .i64 0,.int .i64 0] 30)
  rwa [size_alloc] at this
 have Hld:Hid _:=zmd w0 S cells (ht.kp hk0)
 have H0:Hid (_/\_/\_):=⟨hk0,ho0,hf0⟩
 have Hst:Hid (∀ n:Nat,n=n):=fun _=>rfl
 clear hk0 ho0 hf0 ht
 generalize loadF S cells=LF at *
 obtain⟨fk,fa⟩:=LF
 simp only at Hld
 simp only
 have HTl:Hid (∀ wb L q wx,MSt S cells (min fuel 1000000).toNat wb L q wx->Calls Tryz.prog 9 #[.pointer q] wx fun e w'=>e=.returned (.agg #[.int .i64 (tellM S cells (min fuel 1000000).toNat).kind,.string (tellM S cells (min fuel 1000000).toNat).name,.string ⟨(tellM S cells (min fuel 1000000).toNat).out.toArray⟩,.int .i64 ((tellM S cells (min fuel 1000000).toNat).steps:Nat)])/\Kp [] wx w'):=fun _ _ _ _ h=>zmc h
 generalize tellM S cells (min fuel 1000000).toNat=M at *
 generalize M.kind=mk at *
 generalize M.name=mn at *
 generalize ByteArray.mk M.out.toArray=mo at *
 generalize ((M.steps:Nat):Int)=ms at *
 go_enter Tryz.func4,Tryz.ntmps4
 go_upto_region 1 with fail
 rw[<-hw0]
 clear hw0
 go_wp2_with fail
 refine cM Hld.o ?_
 rintro e w1 ⟨q,rfl,hs⟩
 have hb2:=zab w1 (.cells #[.int .i64 fk,.int .i64 fa] 30)
 have Hb2:=zh hb2
 have HS2:Hid (MSt S cells 0 w0 [w1.heap.size] q _):=hs.box (.cells #[.int .i64 fk,.int .i64 fa] 30)
 have Hz1:=zh hs.frame.size
 clear hs hb2
 have Hgo:Hid _:=zme HS2.o (by omega) fuel
 go_wp2_with fail
 generalize w1.alloc _=w2 at *
 refine cM Hgo.o ?_
 rintro e w3 ⟨v,rfl,hs3,hb3⟩
 rw[Nat.zero_add] at hs3
 have hbx:=(hb3 _ (by simp)).trans Hb2.o
 have hk3:=hs3.frame
 have HT3:Hid _:=fun wx (hx:Kp [] w3 wx)=>HTl.o _ _ _ _ (hs3.kp hx)
 have H3:Hid (Kp [] w w3/\w3.heap[w.heap.size]? = some (.cells #[.int .i64 0,.string ⟨#[]⟩,.string ⟨#[]⟩,.int .i64 0] 27)/\w3.heap[w.heap.size+1]? = some (.cells #[.int .i64 0,.int .i64 0] 30)/\w3.heap[w1.heap.size]? = some (.cells #[.int .i64 fk,.int .i64 fa] 30)/\w.heap.size+1 < w1.heap.size):=by
  refine⟨Kp.trans H0.o.1 hk3,zad H0.o.2.1 hk3,zad H0.o.2.2 hk3,hbx,?_⟩
  have:=(sz H0.o.2.2)
  have:=Hz1.o
  omega
 clear hs3 hb3 hbx hk3
 go_upto_region 3 with fail
 have HF:Hid (∀ wx,Kp [w.heap.size,w.heap.size+1] w3 wx->wx.cell? ⟨w1.heap.size,0,none⟩=some (.int .i64 fk)/\wx.cell? ⟨w1.heap.size,1,none⟩=some (.int .i64 fa)/\w1.heap.size < wx.heap.size):=fun wx hx=>by
  obtain⟨_,_,_,g4,g5⟩:=H3.o
  obtain⟨x0,x1,_,_,xl⟩:=za1 ((hx.block _ (sz g4) (by simp;omega)).trans g4)
  exact⟨x0,x1,xl⟩
 have Hdr:Hid (Kp [w.heap.size,w.heap.size+1] w3 w3.drew):=(Kp.refl _ _).drew
 refine zao (C:=fun wx=>Kp [w.heap.size,w.heap.size+1] w3 wx) (by kernel_rfl) ?_
 refine qA 0 rfl ?_
 apply xI
 (intro wx hwx;go_simp <;> rfl)
 refine qA 2 rfl ?_
 apply xI
 (intro wx hwx;obtain⟨x0,x1,xl⟩:=HF.o wx hwx;go_simp <;> rfl)
 refine oA 1 Hdr.o rfl (fun K hK=>?_)
 go_simp
 refine cM (HT3.o _ ((Kp.refl _ _).drew)) ?_
 rintro e9 w9 ⟨rfl,hw9⟩
 refine hK _ _ ?_
 clear hK K
 have k4:=((Kp.refl [] w3).drew).trans hw9
 have H4:Hid (_/\_/\_/\Kp [w.heap.size,w.heap.size+1] w3 w9):=⟨H3.o.1.trans k4,zad H3.o.2.1 k4,zad H3.o.2.2.1 k4,k4.mono (by simp)⟩
 clear hw9 k4
 obtain⟨x0,x1,x2,x3,xf,xl⟩:=zb1 H4.o.2.1
 have xf0:=xf 0
 have xf1:=xf 1
 have xf2:=xf 2
 have xf3:=xf 3
 clear xf
 refine oA 3 H4.o.2.2.2 rfl (fun K hK=>?_)
 go_simp
 refine hK _ _ ?_
 clear hK K
 have H5:Hid (Kp [] w ((((w9.setCell ⟨w.heap.size,0,none⟩ (.int .i64 mk)).setCell ⟨w.heap.size,1,none⟩ (.string mn)).setCell ⟨w.heap.size,2,none⟩ (.string mo)).setCell ⟨w.heap.size,3,none⟩ (.int .i64 ms))/\((((w9.setCell ⟨w.heap.size,0,none⟩ (.int .i64 mk)).setCell ⟨w.heap.size,1,none⟩ (.string mn)).setCell ⟨w.heap.size,2,none⟩ (.string mo)).setCell ⟨w.heap.size,3,none⟩ (.int .i64 ms)).heap[w.heap.size]? = some (.cells #[.int .i64 mk,.string mn,.string mo,.int .i64 ms] 27)/\((((w9.setCell ⟨w.heap.size,0,none⟩ (.int .i64 mk)).setCell ⟨w.heap.size,1,none⟩ (.string mn)).setCell ⟨w.heap.size,2,none⟩ (.string mo)).setCell ⟨w.heap.size,3,none⟩ (.int .i64 ms)).heap[w.heap.size+1]? = some (.cells #[.int .i64 0,.int .i64 0] 30)/\Kp [w.heap.size,w.heap.size+1] w3 ((((w9.setCell ⟨w.heap.size,0,none⟩ (.int .i64 mk)).setCell ⟨w.heap.size,1,none⟩ (.string mn)).setCell ⟨w.heap.size,2,none⟩ (.string mo)).setCell ⟨w.heap.size,3,none⟩ (.int .i64 ms))):=by
  obtain⟨g1,g2,g3,g4⟩:=H4.o
  refine⟨zlh g1 (Nat.le_refl _) _ _ _ _,ziq g2 _ _ _ _,((kp4 w9 w.heap.size _ _ _ _).block _ (sz g3) (by simp)).trans g3,g4.trans ((kp4 _ _ _ _ _ _).mono (by simp))⟩
 clear x0 x1 x2 x3 xf0 xf1 xf2 xf3 xl
 generalize (((w9.setCell _ _).setCell _ _).setCell _ _).setCell _ _=w10 at *
 obtain⟨x0,x1,xf0,xf1,xl⟩:=za1 H5.o.2.2.1
 refine oA 4 H5.o.2.2.2 rfl (fun K hK=>?_)
 go_simp
 refine hK _ _ ?_
 clear hK K
 have H6:Hid (Kp [] w ((w10.setCell ⟨w.heap.size+1,0,none⟩ (.int .i64 fk)).setCell ⟨w.heap.size+1,1,none⟩ (.int .i64 fa))/\((w10.setCell ⟨w.heap.size+1,0,none⟩ (.int .i64 fk)).setCell ⟨w.heap.size+1,1,none⟩ (.int .i64 fa)).heap[w.heap.size]? = some (.cells #[.int .i64 mk,.string mn,.string mo,.int .i64 ms] 27)/\((w10.setCell ⟨w.heap.size+1,0,none⟩ (.int .i64 fk)).setCell ⟨w.heap.size+1,1,none⟩ (.int .i64 fa)).heap[w.heap.size+1]? = some (.cells #[.int .i64 fk,.int .i64 fa] 30)/\Kp [w.heap.size,w.heap.size+1] w3 ((w10.setCell ⟨w.heap.size+1,0,none⟩ (.int .i64 fk)).setCell ⟨w.heap.size+1,1,none⟩ (.int .i64 fa))):=by
  obtain⟨g1,g2,g3,g4⟩:=H5.o
  have k2:Kp [w.heap.size+1] w10 ((w10.setCell ⟨w.heap.size+1,0,none⟩ (.int .i64 fk)).setCell ⟨w.heap.size+1,1,none⟩ (.int .i64 fa)):=(Kp.setCell (X:=[w.heap.size+1]) _ _ (by simp) _).trans (Kp.setCell (X:=[w.heap.size+1]) _ _ (by simp) _)
  exact⟨zew g1 (by omega) _ _,(k2.block _ (sz g2) (by simp)).trans g2,zek g3 _ _,g4.trans (k2.mono (by simp))⟩
 clear x0 x1 xf0 xf1 xl
 generalize (w10.setCell _ _).setCell _ _=w11 at *
 refine zag H6.o.2.2.2 (by kernel_rfl) ?_
 go_simp
 obtain⟨d0,d1,d2,d3,-,dl⟩:=zb1 H6.o.2.1
 obtain⟨f0,f1,_,_,fl⟩:=za1 H6.o.2.2.1
 go_wp2_with fail
 exact bodyPost_ret (v:=.tuple #[.agg #[.int .i64 mk,.string mn,.string mo,.int .i64 ms],.agg #[.int .i64 fk,.int .i64 fa]]) (by simp[results,Tryz.results4,go_sem,d0,d1,d2,d3,f0,f1]) rfl ⟨rfl,H6.o.1⟩
end Go.Proofs.YtkcmachfagcnaaaGreatDoor
namespace Go.Proofs.YtkcmachfagcnaaaGreatDoor
open Go.RowKit Go.Deep Go.IntWalk
open C12 (Cd Fn In zT decR)
theorem zni(D:Doc)(q:List Cl)(hq:∀ v∈q,v.p=false):room 2 D q 1:=by
 intro V _ hV
 have hno:∀ x,¬ Reach D q x:=by
  intro x h
  induction h with
  | root b h=>
   have:=hq _ h
   cases this
  | field a b t h ht hf ih=>exact ih
 have:V=[]:=List.eq_nil_iff_forall_not_mem.2 (fun x hx=>hno x ((hV x).1 hx))
 rw[this]
 simp[zU]
def ze2:Cd:=⟨[],[⟨0,1,[⟨0,7,0⟩,⟨7,0,1⟩,⟨6,0,0⟩,⟨0,1,0⟩,⟨17,0,0⟩]⟩]⟩
theorem zk0:zZ zSG=ze2:=by
 simp[zZ,zSG,ze2,zc3,zC,za5]
theorem zjc:decR ⟨zSG.enc.1.toArray⟩=(zSG,0,0):=by kernel_rfl
theorem zhp:loadF ⟨zSG.enc.1.toArray⟩ 2=(0,0):=by
 unfold loadF
 rw[zjc]
 simp[zje.2.2.1]
def sm(pc:Nat)(sl va:List Cl):St:=⟨[⟨0,default,default,pc,0,0,0⟩],sl,va,[]⟩
theorem st1(ok:Room):AM.step ok ze2 ⟨sm 0 [] [],fun _=>none,0,0,⟨#[]⟩,[],0⟩=⟨sm 1 [] [num 7],fun _=>none,0,0,⟨#[]⟩,[],1⟩:=by kernel_rfl
theorem st2:AM.step (room 2) ze2 ⟨sm 1 [] [num 7],fun _=>none,0,0,⟨#[]⟩,[],1⟩=⟨sm 2 [] [⟨true,0⟩],upd (fun _=>none) 0 (some ⟨0,0,[num 7]⟩),1,0,⟨#[]⟩,[],2⟩:=by
 have e:AM.step (room 2) ze2 ⟨sm 1 [] [num 7],fun _=>none,0,0,⟨#[]⟩,[],1⟩=AM.tick (AM.act (room 2) ze2 ⟨sm 2 [] [num 7],fun _=>none,0,0,⟨#[]⟩,[],1⟩ (.make ⟨0,0,[num 7]⟩) 1 (fun m v=>{m with s:=(m.s.drop 1).put v,kind:=0})):=by kernel_rfl
 rw[e]
 unfold AM.act
 simp only
 have hr:room 2 (fun _=>none) (sm 2 [] [num 7]).roots [num 7].length:=zni _ _ (by
  intro v hv
  have hv2:v∈[(default:Cl),default,num 7]:=hv
  simp at hv2
  rcases hv2 with rfl | rfl
  ·rfl
  ·rfl)
 rw[if_pos hr]
 rfl
theorem st3(ok:Room)(D:Doc)(n:Int):AM.step ok ze2 ⟨sm 2 [] [⟨true,0⟩],D,n,0,⟨#[]⟩,[],2⟩=⟨sm 3 [⟨true,0⟩] [],D,n,0,⟨#[]⟩,[],3⟩:=by kernel_rfl
theorem st4(ok:Room)(D:Doc)(n:Int):AM.step ok ze2 ⟨sm 3 [⟨true,0⟩] [],D,n,0,⟨#[]⟩,[],3⟩=⟨sm 4 [⟨true,0⟩] [num 1],D,n,0,⟨#[]⟩,[],4⟩:=by kernel_rfl
theorem st5(ok:Room)(D:Doc)(n:Int):(AM.step ok ze2 ⟨sm 4 [⟨true,0⟩] [num 1],D,n,0,⟨#[]⟩,[],4⟩).kind=1:=by kernel_rfl
theorem zgh(pc:Nat)(sl va:List Cl)(D:Doc)(n:Int)(k:Nat):AM.goes ⟨sm pc sl va,D,n,0,⟨#[]⟩,[],k⟩:=⟨rfl,by show(1:Nat)≠0;decide⟩
theorem zne:(tellM ⟨zSG.enc.1.toArray⟩ 2 9).kind=1:=by
 unfold tellM
 rw[zhp,if_pos rfl,zjc]
 simp only
 rw[zk0]
 have e0:AM.start=⟨sm 0 [] [],fun _=>none,0,0,⟨#[]⟩,[],0⟩:=by rfl
 rw[e0,AM.run,if_pos (zgh _ _ _ _ _ _),st1,AM.run,if_pos (zgh _ _ _ _ _ _),st2,AM.run,if_pos (zgh _ _ _ _ _ _),st3,AM.run,if_pos (zgh _ _ _ _ _ _),st4,AM.run,if_pos (zgh _ _ _ _ _ _)]
 rw[ze5 _ _ _ _ (fun h=>by have:=h.1;rw[st5] at this;cases this)]
 exact st5 _ _ _
theorem zi7{S:ByteArray}{cells more:Int}(h1:0<=cells/\cells<=1000000)(h2:0<=more/\more<=1000000 - cells)(n:Nat):loadF S cells=loadF S (cells+more)/\(tellM S cells n=tellM S (cells+more) n\/(tellM S cells n).kind=3):=by
 have e:loadF S cells=loadF S (cells+more):=by
  unfold loadF
  rw[if_neg (show ¬ (cells < 0\/1000000 < cells) by omega),if_neg (show ¬ (cells+more < 0\/1000000 < cells+more) by omega)]
 refine⟨e,?_⟩
 unfold tellM
 rw[<-e]
 split
 ·exact zgj (fun D q n h=>zpe (by omega) D q n h) _ n _
 ·exact Or.inl rfl
end Go.Proofs.YtkcmachfagcnaaaGreatDoor
