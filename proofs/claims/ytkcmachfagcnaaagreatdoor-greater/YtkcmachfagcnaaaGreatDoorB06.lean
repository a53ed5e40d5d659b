/- Part of Greater. -/
import Derived.Lib.BufferWrite
import Derived.Lib.UnsafeStr
import Derived.Test.YtkcmachfagcnaaaGreatDoorB05
set_option maxHeartbeats 8000000
set_option maxRecDepth 100000
namespace Go.Proofs.YtkcmachfagcnaaaGreatDoor.C12
open Go.RowKit Go.Deep
def evR(k a:Int):Value:=if k=0 then .nilIface else .iface 84 (.agg #[.int .i64 k,.int .i64 a])
def PBox(w:World)(rp:Nat)(S:ByteArray)(pos:Int):Prop:=w.heap[rp]? = some (.cells #[.string S,.int .i64 pos] 78)
theorem PBox.lt{w:World}{rp:Nat}{S:ByteArray}{pos:Int}(h:PBox w rp S pos):rp < w.heap.size:=(sz h)
theorem PBox.kp{X:List Nat}{w w':World}{rp:Nat}{S:ByteArray}{pos:Int}(h:PBox w rp S pos)(hk:Kp X w w')(hx:rp∉X):PBox w' rp S pos:=(hk.block rp h.lt hx).trans h
theorem PBox.cells{w:World}{rp:Nat}{S:ByteArray}{pos:Int}(h:PBox w rp S pos):w.cell? ⟨rp,0,none⟩=some (.string S)/\w.cell? ⟨rp,1,none⟩=some (.int .i64 pos)/\w.frozen? ⟨rp,1,none⟩=false/\rp < w.heap.size:=by
 have h2:=h.lt
 unfold PBox at h
 refine⟨?_,?_,?_,h2⟩ <;> simp[World.cell?,World.frozen?,h]
theorem PBox.move{w:World}{rp:Nat}{S:ByteArray}{pos:Int}(h:PBox w rp S pos)(pos':Int):PBox (w.setCell ⟨rp,1,none⟩ (.int .i64 pos')) rp S pos':=by
 unfold PBox at *
 simp[World.setCell,Array.getElem?_modify,h]
theorem zbo(k a:Int)(w:World):Calls Tryz.prog 39 #[.int .i64 k,.int .i64 a] w fun e w'=>e=.returned (.iface 84 (.agg #[.int .i64 k,.int .i64 a]))/\w'=w:=by
 go_enter Tryz.func39,Tryz.ntmps39
 go_wp2
 go_ret
 exact⟨rfl,rfl⟩
theorem zem(w:World)(rp:Nat)(S:ByteArray)(pos:Nat)(h:PBox w rp S pos)(hS:S.size<=2 ^ 50)(hp:pos<=2 ^ 50):Calls Tryz.prog 38 #[.pointer (some ⟨rp,0,none⟩)] w fun e w'=>e=.returned (.int .i64 ((S.size:Int) - pos))/\Kp [] w w':=by
 obtain⟨c0,c1,c2,c3⟩:=h.cells
 clear h
 go_enter Tryz.func38,Tryz.ntmps38
 go_wp2_with fail
 go_quiet (fail)
 go_wp2
 go_ret
 exact⟨rfl,kr.drewN nq⟩
theorem zfo(w:World)(rp:Nat)(S:ByteArray)(pos n:Nat)(h:PBox w rp S pos)(hS:S.size<=4000000)(hp:pos<=4000000)(hgt:(S.size:Int) - pos < n):Calls Tryz.prog 65 #[.pointer (some ⟨rp,0,none⟩),.int .i64 n] w fun e w'=>e=.returned (.tuple #[.string {data:=#[]},.iface 84 (.agg #[.int .i64 16,.int .i64 S.size])])/\PBox w' rp S pos/\Kp [rp] w w':=by
 have H:=zh h
 have Hl:Hid _:=zem w rp S pos h (by omega) (by omega)
 clear h
 go_enter Tryz.func65,Tryz.ntmps65
 go_wp2_with fail
 refine cM Hl.o ?_
 rintro e1 w1 ⟨rfl,hk1⟩
 have Hk1:=zh hk1
 obtain⟨c0,c1,c2,c3⟩:=PBox.cells (PBox.kp H.o hk1 (by simp))
 have Hr:Hid _:=zbo 16 S.size w1
 have hd:=decide_eq_true hgt
 clear hk1
 go_wp2_with fail
 refine cM Hr.o ?_
 rintro e2 w2 ⟨rfl,rfl⟩
 clear c0 c1 c2 c3
 go_wp2
 exact bodyPost_ret (v:=.tuple #[.string {data:=#[]},.iface 84 (.agg #[.int .i64 16,.int .i64 S.size])]) (by simp[results,Tryz.results65,go_sem]) rfl ⟨rfl,PBox.kp H.o Hk1.o (by simp),Kp.mono Hk1.o (by simp)⟩
theorem zkz(w:World)(rp:Nat)(S:ByteArray)(pos n:Nat)(h:PBox w rp S pos)(hS:S.size<=4000000)(hgt:pos+n<=S.size):Calls Tryz.prog 65 #[.pointer (some ⟨rp,0,none⟩),.int .i64 n] w fun e w'=>e=.returned (.tuple #[.string (S.extract pos (pos+n)),.nilIface])/\PBox w' rp S ((pos:Int)+n)/\Kp [rp] w w':=by
 have H:=zh h
 have Hl:Hid _:=zem w rp S pos h (by omega) (by omega)
 clear h
 go_enter Tryz.func65,Tryz.ntmps65
 go_wp2_with fail
 refine cM Hl.o ?_
 rintro e1 w1 ⟨rfl,hk1⟩
 have Hk1:=zh hk1
 have H1:Hid _:=PBox.kp H.o hk1 (by simp)
 obtain⟨c0,c1,c2,c3⟩:=PBox.cells H1.o
 have hd:decide ((S.size:Int) - pos < n)=false:=decide_eq_false (by omega)
 have hle:(pos:Int)+n<=S.size:=by omega
 have hp0:(0:Int)<=pos:=by omega
 have hp1:(pos:Int)<=(pos:Int)+n:=by omega
 clear hk1
 go_wp2_with fail
 go_quiet (fail)
 have Hf:Hid (PBox ((w1.drewN nq).setCell ⟨rp,1,none⟩ (.int .i64 ((pos:Int)+n))) rp S ((pos:Int)+n)/\Kp [rp] w ((w1.drewN nq).setCell ⟨rp,1,none⟩ (.int .i64 ((pos:Int)+n)))):=
  ⟨(PBox.kp H1.o (kr.drewN nq) (by simp)).move _,(Kp.mono Hk1.o (by simp)).trans (((Kp.refl _ _).drewN nq).trans (Kp.setCell _ ⟨rp,1,none⟩ (by simp) _))⟩
 go_wp2
 exact bodyPost_ret (v:=.tuple #[.string (S.extract pos (pos+n)),.nilIface]) (by simp[results,Tryz.results65,go_sem]) rfl ⟨rfl,Hf.o⟩
theorem zvs(V:Int)(b:Nat)(h1:0<=V)(h2:V < 16777216)(hb:b < 256):bits BinOp.or IntKind.i64 (wrap64 (V * 256)) (wrap64 (b:Int))=256 * V+b:=by
 obtain⟨v,rfl⟩:∃ v:Nat,V=(v:Int):=⟨V.toNat,by omega⟩
 rw[IntWalk.wrap64_in ((v:Int) * 256) (by omega),IntWalk.wrap64_in (b:Int) (by omega)]
 unfold bits
 have e1:BitVec.ofInt IntKind.i64.bits ((v:Int) * 256)=BitVec.ofNat 64 (v * 256):=by
  have:((v:Int) * 256)=((v * 256:Nat):Int):=by omega
  rw[this]
  exact BitVec.ofInt_natCast ..
 have e2:BitVec.ofInt IntKind.i64.bits (b:Int)=BitVec.ofNat 64 b:=BitVec.ofInt_natCast ..
 rw[e1,e2]
 show IntKind.i64.wrap ((BitVec.ofNat 64 (v * 256) ||| BitVec.ofNat 64 b).toNat:Int)=_
 rw[BitVec.toNat_or,BitVec.toNat_ofNat,BitVec.toNat_ofNat,Nat.mod_eq_of_lt (by omega),Nat.mod_eq_of_lt (by omega)]
 have e3:v * 256 ||| b=v * 256+b:=by
  have:=Nat.shiftLeft_add_eq_or_of_lt (b:=b) (i:=8) (by omega) v
  rw[Nat.shiftLeft_eq] at this
  simpa using this.symm
 rw[e3,IntWalk.i64_in _ (by omega)]
 omega
theorem zms(S:ByteArray)(pos n i:Nat)(hi:i < (S.extract pos (pos+n)).size)(hn:pos+n<=S.size):((S.extract pos (pos+n))[i]'hi)=zbb S (pos+i):=by
 have h1:i < n:=by simp[ByteArray.size_extract] at hi;omega
 have h2:pos+i < S.size:=by omega
 rw[zrs S (pos+i) (pos+i) h2 rfl]
 exact ByteArray.getElem_extract ..
theorem zel(w:World)(rp:Nat)(S:ByteArray)(pos n:Nat)(h:PBox w rp S pos)(hS:S.size<=4000000)(hn:n<=4)(hgt:pos+n<=S.size):Calls Tryz.prog 67 #[.pointer (some ⟨rp,0,none⟩),.int .i64 n] w fun e w'=>e=.returned (.tuple #[.int .i64 (numAt S pos n),.nilIface])/\PBox w' rp S ((pos:Int)+n)/\Kp [rp] w w':=by
 have Ht:Hid _:=zkz w rp S pos n h hS hgt
 clear h
 have hsz:(S.extract pos (pos+n)).size=n:=by simp[ByteArray.size_extract];omega
 go_enter Tryz.func67,Tryz.ntmps67
 go_wp2_with fail
 refine cM Ht.o ?_
 rintro e1 w1 ⟨rfl,hq⟩
 have Hq:=zh hq
 clear hq
 obtain⟨T,hT⟩:∃ T,T=S.extract pos (pos+n):=⟨_,rfl⟩
 rw[<-hT] at hsz ⊢
 have HT:=zh hT
 clear hT
 go_wp2_with fail
 go_loopg [8,18] n (fun g vv iv wr=>∃ i:Nat,vv=.int .i64 (numAt S pos i)/\iv=.int .i64 i/\i<=n/\g=n - i/\wr=w1)
 case atStart=>exact⟨0,rfl,rfl,by omega,by omega,rfl⟩
 case round=>
  obtain⟨i,rfl,rfl,hi1,rfl,hw⟩:=hrel
  have hw:=hw.symm
  subst hw
  have hns:=zch S pos i
  by_cases hi:i < n
  ·have hi':(i:Int) < T.size:=by omega
   have hit:i < T.size:=by omega
   have hix:0<=(i:Int)/\(i:Int) < T.size:=by omega
   generalize hV:numAt S pos i=V at *
   have HV:=zh hV
   clear hV
   have hT2:∀ h:i < T.size,(T[i]'h)=zbb S (pos+i):=fun h=>by
    have e:=HT.o
    subst e
    exact zms S pos n i h hgt
   have hor:=zvs V (T[i]'hit).toNat hns.1 (by
    have h3:i=0\/i=1\/i=2\/i=3:=by omega
    have h4:=hns.2
    rcases h3 with rfl | rfl | rfl | rfl <;> omega) (UInt8.toNat_lt _)
   have Q:Hid (256 * V+((T[i]'hit).toNat:Int)=numAt S pos (i+1)):=by
    unfold Hid
    rw[numAt,HV.o,hT2]
   clear hT2 hns
   have Hor:=zh hor
   clear hor
   go_wp2
   go_roundg (n - (i+1))
   case measure=>omega
   case rel=>exact⟨i+1,by rw[<-Q.o];exact congrArg _ Hor.o,by first | rfl | (congr 1;omega) | go_num,by omega,rfl,rfl⟩
  ·have hi':¬ (i:Int) < T.size:=by omega
   obtain rfl:i=n:=by omega
   go_wp2
   exact bodyPost_ret (v:=.tuple #[.int .i64 (numAt S pos i),.nilIface]) (by simp[results,Tryz.results67,go_sem]) rfl ⟨rfl,Hq.o⟩
theorem zcq(w:World)(rp:Nat)(S:ByteArray)(pos n:Nat)(h:PBox w rp S pos)(hS:S.size<=4000000)(hp:pos<=4000000)(hgt:(S.size:Int) - pos < n):Calls Tryz.prog 67 #[.pointer (some ⟨rp,0,none⟩),.int .i64 n] w fun e w'=>e=.returned (.tuple #[.int .i64 0,.iface 84 (.agg #[.int .i64 16,.int .i64 S.size])])/\PBox w' rp S pos/\Kp [rp] w w':=by
 have Ht:Hid _:=zfo w rp S pos n h hS hp hgt
 clear h
 go_enter Tryz.func67,Tryz.ntmps67
 go_wp2_with fail
 refine cM Ht.o ?_
 rintro e1 w1 ⟨rfl,hq⟩
 have Hq:=zh hq
 clear hq
 go_wp2_with fail
 go_loopg [8,18] 0 (fun g vv iv wr=>vv=.int .i64 0/\iv=.int .i64 0/\wr=w1/\g=0)
 case atStart=>exact⟨rfl,rfl,rfl,rfl⟩
 case round=>
  obtain⟨rfl,rfl,hw,rfl⟩:=hrel
  have hw:=hw.symm
  subst hw
  go_wp2
  exact bodyPost_ret (v:=.tuple #[.int .i64 0,.iface 84 (.agg #[.int .i64 16,.int .i64 S.size])]) (by simp[results,Tryz.results67,go_sem]) rfl ⟨rfl,Hq.o⟩
def num0(S:ByteArray)(n pos:Nat):Int×Rs:=Rs.num S n ⟨pos,0,0⟩
theorem zbp{S:ByteArray}{n pos:Nat}(h:(S.size:Int) - pos < n):num0 S n pos=(0,⟨pos,16,S.size⟩):=by
 unfold num0 Rs.num
 simp[h]
theorem zdt{S:ByteArray}{n pos:Nat}(h:¬ (S.size:Int) - pos < n):num0 S n pos=(numAt S pos n,⟨pos+n,0,0⟩):=by
 unfold num0 Rs.num
 simp[h]
theorem zle(w:World)(rp:Nat)(S:ByteArray)(pos n:Nat)(h:PBox w rp S pos)(hS:S.size<=4000000)(hp:pos<=4000000)(hn:n<=4):Calls Tryz.prog 67 #[.pointer (some ⟨rp,0,none⟩),.int .i64 n] w fun e w'=>e=.returned (.tuple #[.int .i64 (num0 S n pos).1,evR (num0 S n pos).2.kind (num0 S n pos).2.fat])/\PBox w' rp S (num0 S n pos).2.pos/\Kp [rp] w w':=by
 by_cases hgt:(S.size:Int) - pos < n
 ·rw[zbp hgt]
  exact zcq w rp S pos n h hS hp hgt
 ·rw[zdt hgt]
  exact zel w rp S pos n h hS hn (by omega)
theorem zc6(w:World)(rp:Nat)(S:ByteArray)(pos:Nat)(h:PBox w rp S pos)(hS:S.size<=4000000)(hp:pos<=4000000):Calls Tryz.prog 66 #[.pointer (some ⟨rp,0,none⟩)] w fun e w'=>e=.returned (.tuple #[.int .i64 (num0 S 2 pos).1,evR (num0 S 2 pos).2.kind (num0 S 2 pos).2.fat])/\PBox w' rp S (num0 S 2 pos).2.pos/\Kp [rp] w w':=by
 have Hc:Hid _:=zle w rp S pos 2 h hS hp (by omega)
 clear h
 generalize num0 S 2 pos=r at *
 generalize evR r.2.kind r.2.fat=ev at *
 go_enter Tryz.func66,Tryz.ntmps66
 go_wp2_with fail
 refine cM Hc.o ?_
 rintro e1 w1 ⟨rfl,hq⟩
 have Hq:=zh hq
 clear hq
 go_wp2
 exact bodyPost_ret (v:=.tuple #[.int .i64 r.1,ev]) (by simp[results,Tryz.results66,go_sem]) rfl ⟨rfl,Hq.o⟩
theorem zld(w:World)(rp:Nat)(S:ByteArray)(pos:Nat)(h:PBox w rp S pos)(hS:S.size<=4000000)(hp:pos<=4000000):Calls Tryz.prog 94 #[.pointer (some ⟨rp,0,none⟩)] w fun e w'=>e=.returned (.tuple #[.int .i64 (argR S 105 ⟨pos,0,0⟩).1,evR (argR S 105 ⟨pos,0,0⟩).2.kind (argR S 105 ⟨pos,0,0⟩).2.fat])/\PBox w' rp S (argR S 105 ⟨pos,0,0⟩).2.pos/\Kp [rp] w w':=by
 obtain⟨c0,c1,c2,c3⟩:=h.cells
 by_cases hgt:(S.size:Int) - pos < 4
 ·have Hc:Hid _:=zcq w rp S pos 4 h hS hp hgt
  have e:argR S 105 ⟨pos,0,0⟩=(0,⟨pos,16,S.size⟩):=by
   have:=zbp (S:=S) (n:=4) (pos:=pos) hgt
   unfold num0 at this
   unfold argR
   rw[this]
   simp[signed]
  rw[e]
  clear h e
  go_enter Tryz.func94,Tryz.ntmps94
  go_wp2_with fail
  refine cM Hc.o ?_
  rintro e1 w1 ⟨rfl,hq⟩
  have Hq:=zh hq
  clear hq
  go_wp2
  exact bodyPost_ret (v:=.tuple #[.int .i64 0,.iface 84 (.agg #[.int .i64 16,.int .i64 S.size])]) (by simp[results,Tryz.results94,go_sem]) rfl ⟨rfl,Hq.o⟩
 ·have Hc:Hid _:=zel w rp S pos 4 h hS (by omega) (by omega)
  have hv:=zch S pos 4
  obtain⟨v,hvv⟩:∃ v,v=numAt S pos 4:=⟨_,rfl⟩
  rw[<-hvv] at Hc hv
  have e:argR S 105 ⟨pos,0,0⟩=(signed v,if isNum (signed v)=true then⟨pos+4,0,0⟩ else⟨pos+4,17,pos⟩):=by
   have:=zdt (S:=S) (n:=4) (pos:=pos) hgt
   unfold num0 at this
   unfold argR
   rw[this,<-hvv]
   simp only[if_true]
   by_cases h1:1000000000 < signed v\/signed v < -1000000000
   ·have hf:isNum (signed v)=false:=by
     unfold isNum
     rw[Bool.and_eq_false_iff,decide_eq_false_iff_not,decide_eq_false_iff_not]
     omega
    rw[if_pos h1,hf]
    rfl
   ·have hf:isNum (signed v)=true:=by
     unfold isNum
     rw[Bool.and_eq_true,decide_eq_true_eq,decide_eq_true_eq]
     omega
    rw[if_neg h1,hf]
    rfl
  have Hnum:Hid (∀ wx:World,Calls Tryz.prog 92 #[.int .i64 (signed v)] wx fun e w2=>e=.returned (.bool (isNum (signed v)))/\w2=wx):=fun wx=>zjs (signed v) wx
  rw[e]
  have hws:wrap64 (wrap32 v)=signed v:=by
   unfold signed
   simp only[wrap64,wrap32]
   split <;> omega
  clear h e hvv
  generalize isNum (signed v)=c at *
  generalize signed v=sv at *
  go_enter Tryz.func94,Tryz.ntmps94
  go_wp2_with fail
  refine cM Hc.o ?_
  rintro e1 w1 ⟨rfl,hq⟩
  have Hq:=zh hq
  clear hq
  go_upto_region 4 with fail
  rw[hws]
  cases c
  ·have Hr:Hid _:=zbo 17 pos w1
   go_wp2_with fail
   refine cM (Hnum.o _) ?_
   rintro e2 w2 ⟨rfl,rfl⟩
   go_wp2_with fail
   refine cM Hr.o ?_
   rintro e2 w2 ⟨rfl,rfl⟩
   go_wp2
   exact bodyPost_ret (v:=.tuple #[.int .i64 sv,.iface 84 (.agg #[.int .i64 17,.int .i64 pos])]) (by simp[results,Tryz.results94,go_sem]) rfl ⟨rfl,Hq.o⟩
  ·go_wp2_with fail
   refine cM (Hnum.o _) ?_
   rintro e2 w2 ⟨rfl,rfl⟩
   go_wp2
   exact bodyPost_ret (v:=.tuple #[.int .i64 sv,.nilIface]) (by simp[results,Tryz.results94,go_sem]) rfl ⟨rfl,Hq.o⟩
theorem XBox.setOp{w:World}{xp:Nat}{x:In}(h:XBox w xp x)(v:Int):XBox (w.setCell ⟨xp,0,none⟩ (.int .i64 v)) xp ⟨v,x.a,x.b⟩:=by
 unfold XBox at *
 simp[World.setCell,Array.getElem?_modify,h]
theorem zcb{k a:Int}(h:k=0):evR k a=.nilIface:=by unfold evR;rw[if_pos h]
theorem zcc{k a:Int}(h:¬ k=0):evR k a=.iface 84 (.agg #[.int .i64 k,.int .i64 a]):=by unfold evR;rw[if_neg h]
structure IW(w:World)(rp:Nat)(S:ByteArray)(xp:Nat)(P:Int)(x:In)(u:World):Prop where
 pb:PBox u rp S P
 xb:XBox u xp x
 kp:Kp [rp] w u
 xr:xp≠rp
 fr:w.heap.size<=xp
section
variable{w:World}{rp:Nat}{S:ByteArray}{xp:Nat}{P:Int}{x:In}{u:World}
theorem IW.call(h:IW w rp S xp P x u){u':World}{P':Int}(hp:PBox u' rp S P')(hk:Kp [rp] u u'):IW w rp S xp P' x u':=⟨hp,h.xb.kp hk (by simpa using h.xr),h.kp.trans hk,h.xr,h.fr⟩
theorem IW.put(h:IW w rp S xp P x u){u':World}{x':In}(hx:XBox u' xp x')(hk:Kp [xp] u u'):IW w rp S xp P x' u':=⟨h.pb.kp hk (by simpa using Ne.symm h.xr),hx,h.kp.then hk (by intro y hy;right;simp only[List.mem_singleton] at hy;rw[hy];exact h.fr),h.xr,h.fr⟩
theorem IW.op(h:IW w rp S xp P x u)(v:Int):IW w rp S xp P ⟨v,x.a,x.b⟩ (u.setCell ⟨xp,0,none⟩ (.int .i64 v)):=h.put (h.xb.setOp v) (Kp.setCell _ ⟨xp,0,none⟩ (by simp) _)
theorem IW.a(h:IW w rp S xp P x u)(v:Int):IW w rp S xp P ⟨x.op,v,x.b⟩ (u.setCell ⟨xp,1,none⟩ (.int .i64 v)):=h.put (h.xb.setA v) (Kp.setCell _ ⟨xp,1,none⟩ (by simp) _)
theorem IW.b(h:IW w rp S xp P x u)(v:Int):IW w rp S xp P ⟨x.op,x.a,v⟩ (u.setCell ⟨xp,2,none⟩ (.int .i64 v)):=h.put (h.xb.setB v) (Kp.setCell _ ⟨xp,2,none⟩ (by simp) _)
theorem IW.all(h:IW w rp S xp P x u):IW w rp S xp P x (((u.setCell ⟨xp,0,none⟩ (.int .i64 x.op)).setCell ⟨xp,1,none⟩ (.int .i64 x.a)).setCell ⟨xp,2,none⟩ (.int .i64 x.b)):=((h.op x.op).a x.a).b x.b
end
def ins0(S:ByteArray)(pos:Nat):In×Rs:=insR S ⟨pos,0,0⟩
theorem zht{S:ByteArray}{pos:Nat}(h:(S.size:Int) - pos < (1:Nat)):ins0 S pos=(⟨0,0,0⟩,⟨pos,16,S.size⟩):=by
 have:=zbp (S:=S) (n:=1) (pos:=pos) h
 unfold num0 at this
 unfold ins0 insR zdw
 rw[this]
 simp[isOp,form,formT,zcm]
theorem zqr{S:ByteArray}{pos:Nat}(h:¬ (S.size:Int) - pos < (1:Nat))(hop:isOp (numAt S pos 1)=false):ins0 S pos=(⟨numAt S pos 1,0,0⟩,⟨pos+1,18,pos⟩):=by
 have:=zdt (S:=S) (n:=1) (pos:=pos) h
 unfold num0 at this
 have hf:form (numAt S pos 1)=[]:=(zmo (by have:=ztj hop;omega)).1
 unfold ins0 insR zdw
 rw[this]
 simp[hop,hf,zcm,Rs.fail]
theorem zqs{S:ByteArray}{pos:Nat}(h:¬ (S.size:Int) - pos < (1:Nat))(hop:isOp (numAt S pos 1)=true):ins0 S pos=zcm S (form (numAt S pos 1)) 0 (⟨numAt S pos 1,0,0⟩,⟨pos+1,0,0⟩):=by
 have:=zdt (S:=S) (n:=1) (pos:=pos) h
 unfold num0 at this
 unfold ins0 insR zdw
 rw[this]
 simp[hop]
theorem zgd(S:ByteArray)(c:UInt8)(v:Int)(pos:Nat):zcm S [c] 0 (⟨v,0,0⟩,⟨pos,0,0⟩)=(⟨v,(argR S c ⟨pos,0,0⟩).1,0⟩,(argR S c ⟨pos,0,0⟩).2):=by
 simp[zcm,In.put]
theorem zuo(S:ByteArray)(pos:Nat):argR S 110 ⟨pos,0,0⟩=num0 S 2 pos:=by
 unfold argR num0
 simp
theorem zjo{S:ByteArray}{n pos:Nat}(h:(num0 S n pos).2.kind=0):(num0 S n pos).2=⟨pos+n,0,0⟩:=by
 by_cases hgt:(S.size:Int) - pos < n
 ·rw[zbp hgt] at h
  cases h
 ·rw[zdt hgt]
theorem zmh(S:ByteArray)(v:Int)(pos:Nat):zcm S [110,110] 0 (⟨v,0,0⟩,⟨pos,0,0⟩)=if(num0 S 2 pos).2.kind=0 then(⟨v,(num0 S 2 pos).1,(num0 S 2 (pos+2)).1⟩,(num0 S 2 (pos+2)).2) else(⟨v,(num0 S 2 pos).1,0⟩,(num0 S 2 pos).2):=by
 simp only[zcm,In.put,zuo]
 by_cases hk:(num0 S 2 pos).2.kind=0
 ·have:=zjo hk
  simp[hk]
  rw[this,zuo]
  simp
 ·simp[hk]
theorem ztk(w:World)(rp:Nat)(S:ByteArray)(pos:Nat)(h:PBox w rp S pos)(hSh:ShIn w)(hrp:3≠rp)(hS:S.size<=4000000)(hp:pos<=4000000):Calls Tryz.prog 70 #[.pointer (some ⟨rp,0,none⟩)] w fun e w'=>e=.returned (.tuple #[.agg #[.int .i64 (ins0 S pos).1.op,.int .i64 (ins0 S pos).1.a,.int .i64 (ins0 S pos).1.b],evR (ins0 S pos).2.kind (ins0 S pos).2.fat])/\PBox w' rp S (ins0 S pos).2.pos/\Kp [rp] w w':=by
 have hiw:IW w rp S w.heap.size pos ⟨0,0,0⟩ (w.alloc (.cells #[.int .i64 0,.int .i64 0,.int .i64 0] 44)):=⟨h.kp kA (by simp),(MapKept.heap_alloc w _).1,Kp.alloc _ _ _,by have:=h.lt;omega,Nat.le_refl _⟩
 have HI0:=zh hiw
 have HSh:Hid (∀ wx,Kp [rp] w wx->ShIn wx):=fun wx hx=>hSh.of_block (hx.block 3 hSh.lt (by simpa using hrp))
 have hn1:=zch S pos 1
 obtain⟨R,hR⟩:∃ R,R=ins0 S pos:=⟨_,rfl⟩
 rw[<-hR]
 have HR:=zh hR
 clear hiw hSh h hR
 go_enter Tryz.func70,Tryz.ntmps70
 go_upto_region 1 with fail
 generalize w.alloc _=w0 at *
 obtain⟨c0,c1,c2,c3⟩:=PBox.cells HI0.o.pb
 by_cases hgt:(S.size:Int) - pos < (1:Nat)
 ·have Hcn:Hid _:=zcq w0 rp S pos 1 HI0.o.pb hS hp hgt
  have hR2:R=(⟨0,0,0⟩,⟨pos,16,S.size⟩):=by rw[HR.o,zht hgt]
  subst hR2
  go_wp2_with fail
  refine cM Hcn.o ?_
  rintro e1 w1 ⟨rfl,p1,k1⟩
  have H1:Hid _:=IW.call HI0.o p1 k1
  clear c0 c1 c2 c3 p1 k1
  obtain⟨x0,x1,x2,xf⟩:=H1.o.xb.cells
  have xf0:=xf 0
  have xf1:=xf 1
  have xf2:=xf 2
  have xl:=H1.o.xb.lt
  obtain⟨c0,c1,c2,c3⟩:=H1.o.pb.cells
  simp only at x0 x1 x2
  clear xf
  have H2:Hid _:=H1.o.op 0
  go_upto_region 4 with fail
  clear x0 x1 x2 xf0 xf1 xf2 xl c0 c1 c2 c3
  generalize w1.setCell _ _=w2 at *
  obtain⟨x0,x1,x2,xf⟩:=H2.o.xb.cells
  have xf0:=xf 0
  have xf1:=xf 1
  have xf2:=xf 2
  have xl:=H2.o.xb.lt
  obtain⟨c0,c1,c2,c3⟩:=H2.o.pb.cells
  simp only at x0 x1 x2
  clear xf
  have hfin:=H2.o.all
  obtain⟨z0,z1,z2,_⟩:=hfin.xb.cells
  have Hfin:Hid _:=And.intro hfin.pb hfin.kp
  simp only at z0 z1 z2
  clear hfin
  go_wp2
  exact bodyPost_ret (v:=.tuple #[.agg #[.int .i64 0,.int .i64 0,.int .i64 0],.iface 84 (.agg #[.int .i64 16,.int .i64 S.size])]) (by simp[results,Tryz.results70,go_sem,z0,z1,z2]) rfl ⟨rfl,Hfin.o⟩
 have Hcn:Hid _:=zel w0 rp S pos 1 HI0.o.pb hS (by omega) (by omega)
 obtain⟨v,hv⟩:∃ v,v=numAt S pos 1:=⟨_,rfl⟩
 have hop1:=zqr (S:=S) (pos:=pos) hgt
 have hop2:=zqs (S:=S) (pos:=pos) hgt
 rw[<-hv] at hop1 hop2 Hcn hn1
 have Hop1:=zh hop1
 have Hop2:=zh hop2
 clear hop1 hop2 hv
 go_wp2_with fail
 refine cM Hcn.o ?_
 rintro e1 w1 ⟨rfl,p1,k1⟩
 have H1:Hid _:=IW.call HI0.o p1 k1
 clear c0 c1 c2 c3 p1 k1
 obtain⟨x0,x1,x2,xf⟩:=H1.o.xb.cells
 have xf0:=xf 0
 have xf1:=xf 1
 have xf2:=xf 2
 have xl:=H1.o.xb.lt
 obtain⟨c0,c1,c2,c3⟩:=H1.o.pb.cells
 simp only at x0 x1 x2
 clear xf
 have H2:Hid _:=H1.o.op v
 go_upto_region 5 with fail
 clear x0 x1 x2 xf0 xf1 xf2 xl c0 c1 c2 c3
 generalize w1.setCell _ _=w2 at *
 obtain⟨x0,x1,x2,xf⟩:=H2.o.xb.cells
 have xf0:=xf 0
 have xf1:=xf 1
 have xf2:=xf 2
 have xl:=H2.o.xb.lt
 obtain⟨c0,c1,c2,c3⟩:=H2.o.pb.cells
 simp only at x0 x1 x2
 clear xf
 have Hb:Hid _:=zdi v 26 w2
 have e26:(decide (0<=v) && decide (v < 26))=isOp v:=by
  unfold isOp
  congr 1
  apply decide_eq_decide.2
  omega
 rw[e26] at Hb
 clear e26
 cases hop:isOp v
 ·have hR2:R=(⟨v,0,0⟩,⟨pos+1,18,pos⟩):=by rw[HR.o,Hop1.o hop]
  subst hR2
  rw[hop] at Hb
  clear hop
  go_wp2_with fail
  refine cM Hb.o ?_
  rintro e3 w3 ⟨rfl,rfl⟩
  go_upto_region 6 with fail
  have hfin:=H2.o.all
  obtain⟨z0,z1,z2,_⟩:=hfin.xb.cells
  have Hfin:Hid _:=And.intro (PBox.kp hfin.pb (kr.drew) (by simp)) (Kp.drew hfin.kp)
  simp only at z0 z1 z2
  clear hfin
  go_region_with (go_at_call 39;refine(zbo 18 pos _).mono ?_;rintro e4 w4 ⟨rfl,rfl⟩)
  all_goals go_wp2
  all_goals exact bodyPost_ret (v:=.tuple #[.agg #[.int .i64 v,.int .i64 0,.int .i64 0],.iface 84 (.agg #[.int .i64 18,.int .i64 pos])]) (by simp[results,Tryz.results70,go_sem,z0,z1,z2]) rfl ⟨rfl,Hfin.o⟩
 rw[hop] at Hb
 obtain⟨k,rfl,hk⟩:=zc8 hop
 have hR2:=HR.o
 rw[Hop2.o hop] at hR2
 obtain⟨d0,-,-⟩:=(HSh.o _ H2.o.kp).cells k hk
 have hk':(k:Int) < 26:=by omega
 clear hop
 go_wp2_with fail
 refine cM Hb.o ?_
 rintro e3 w3 ⟨rfl,rfl⟩
 rcases zdg k hk with⟨h1,h2⟩ | ⟨h1,h2⟩ | ⟨h1,h2⟩ | ⟨h1,h2⟩
 ·rw[h1] at d0
  rw[h2] at hR2
  have hR3:=hR2
  subst hR3
  clear h1 h2 hR2
  have hfin:=H2.o.all
  obtain⟨z0,z1,z2,_⟩:=hfin.xb.cells
  have Hfin:Hid _:=And.intro hfin.pb hfin.kp
  simp only at z0 z1 z2
  clear hfin
  go_wp2
  exact bodyPost_ret (v:=.tuple #[.agg #[.int .i64 k,.int .i64 0,.int .i64 0],.nilIface]) (by simp[results,Tryz.results70,go_sem,z0,z1,z2]) rfl ⟨rfl,Hfin.o⟩
 ·rw[h1] at d0
  rw[h2,zgd] at hR2
  have Hc:Hid _:=zld w3 rp S (pos+1) H2.o.pb hS (by omega)
  generalize argR S 105 ⟨pos+1,0,0⟩=A at *
  obtain⟨av,r2⟩:=A
  simp only at Hc hR2
  subst hR2
  clear h1 h2
  go_wp2_with fail
  refine cM Hc.o ?_
  rintro e4 w4 ⟨rfl,p4,k4⟩
  have H4:Hid _:=IW.call H2.o p4 k4
  clear d0 p4 k4
  clear x0 x1 x2 xf0 xf1 xf2 xl c0 c1 c2 c3
  obtain⟨x0,x1,x2,xf⟩:=H4.o.xb.cells
  have xf0:=xf 0
  have xf1:=xf 1
  have xf2:=xf 2
  have xl:=H4.o.xb.lt
  obtain⟨c0,c1,c2,c3⟩:=H4.o.pb.cells
  simp only at x0 x1 x2
  clear xf
  have H5:Hid _:=H4.o.a av
  generalize hev:evR r2.kind r2.fat=ev at *
  have Hev:=zh hev
  clear hev
  go_upto_region 16 with fail
  clear x0 x1 x2 xf0 xf1 xf2 xl c0 c1 c2 c3
  generalize w4.setCell _ _=w5 at *
  obtain⟨x0,x1,x2,xf⟩:=H5.o.xb.cells
  have xf0:=xf 0
  have xf1:=xf 1
  have xf2:=xf 2
  have xl:=H5.o.xb.lt
  obtain⟨c0,c1,c2,c3⟩:=H5.o.pb.cells
  simp only at x0 x1 x2
  clear xf
  have hfin:=H5.o.all
  obtain⟨z0,z1,z2,_⟩:=hfin.xb.cells
  have Hfin:Hid _:=And.intro hfin.pb hfin.kp
  simp only at z0 z1 z2
  clear hfin
  go_wp2
  exact bodyPost_ret (v:=.tuple #[.agg #[.int .i64 k,.int .i64 av,.int .i64 0],ev]) (by simp[results,Tryz.results70,go_sem,z0,z1,z2]) rfl ⟨by rw[Hev.o],Hfin.o⟩
 ·rw[h1] at d0
  rw[h2,zgd,zuo] at hR2
  have Hc:Hid _:=zc6 w3 rp S (pos+1) H2.o.pb hS (by omega)
  generalize num0 S 2 (pos+1)=A at *
  obtain⟨av,r2⟩:=A
  simp only at Hc hR2
  subst hR2
  clear h1 h2
  go_wp2_with fail
  refine cM Hc.o ?_
  rintro e4 w4 ⟨rfl,p4,k4⟩
  have H4:Hid _:=IW.call H2.o p4 k4
  clear d0 p4 k4
  clear x0 x1 x2 xf0 xf1 xf2 xl c0 c1 c2 c3
  obtain⟨x0,x1,x2,xf⟩:=H4.o.xb.cells
  have xf0:=xf 0
  have xf1:=xf 1
  have xf2:=xf 2
  have xl:=H4.o.xb.lt
  obtain⟨c0,c1,c2,c3⟩:=H4.o.pb.cells
  simp only at x0 x1 x2
  clear xf
  have H5:Hid _:=H4.o.a av
  generalize hev:evR r2.kind r2.fat=ev at *
  have Hev:=zh hev
  clear hev
  go_upto_region 16 with fail
  clear x0 x1 x2 xf0 xf1 xf2 xl c0 c1 c2 c3
  generalize w4.setCell _ _=w5 at *
  obtain⟨x0,x1,x2,xf⟩:=H5.o.xb.cells
  have xf0:=xf 0
  have xf1:=xf 1
  have xf2:=xf 2
  have xl:=H5.o.xb.lt
  obtain⟨c0,c1,c2,c3⟩:=H5.o.pb.cells
  simp only at x0 x1 x2
  clear xf
  have hfin:=H5.o.all
  obtain⟨z0,z1,z2,_⟩:=hfin.xb.cells
  have Hfin:Hid _:=And.intro hfin.pb hfin.kp
  simp only at z0 z1 z2
  clear hfin
  go_wp2
  exact bodyPost_ret (v:=.tuple #[.agg #[.int .i64 k,.int .i64 av,.int .i64 0],ev]) (by simp[results,Tryz.results70,go_sem,z0,z1,z2]) rfl ⟨by rw[Hev.o],Hfin.o⟩
 ·rw[h1] at d0
  rw[h2,zmh] at hR2
  have Hc:Hid _:=zc6 w3 rp S (pos+1) H2.o.pb hS (by omega)
  have Hfine:Hid _:=zjo (S:=S) (n:=2) (pos:=pos+1)
  have hq:(num0 S 2 (pos+1)).2.kind=0->pos+1+2<=S.size:=fun hz=>by
   by_cases hg:(S.size:Int) - (pos+1:Nat) < (2:Nat)
   ·rw[zbp hg] at hz
    cases hz
   ·omega
  have Hq:=zh hq
  have Hc2:Hid (∀ wx:World,PBox wx rp S ((pos+1+2:Nat):Int)->pos+1+2<=4000000->_):=fun wx hx hl=>zc6 wx rp S (pos+1+2) hx hS hl
  generalize num0 S 2 (pos+1)=A at *
  generalize num0 S 2 (pos+1+2)=B at *
  obtain⟨av,r2⟩:=A
  obtain⟨bv,r3⟩:=B
  simp only at Hc hR2 Hfine Hq Hc2
  clear h1 h2 hq
  go_wp2_with fail
  refine cM Hc.o ?_
  rintro e4 w4 ⟨rfl,p4,k4⟩
  have H4:Hid _:=IW.call H2.o p4 k4
  clear d0 p4 k4
  clear x0 x1 x2 xf0 xf1 xf2 xl c0 c1 c2 c3
  obtain⟨x0,x1,x2,xf⟩:=H4.o.xb.cells
  have xf0:=xf 0
  have xf1:=xf 1
  have xf2:=xf 2
  have xl:=H4.o.xb.lt
  obtain⟨c0,c1,c2,c3⟩:=H4.o.pb.cells
  simp only at x0 x1 x2
  clear xf
  have H5:Hid _:=H4.o.a av
  go_upto_region 14 with fail
  clear x0 x1 x2 xf0 xf1 xf2 xl c0 c1 c2 c3
  generalize w4.setCell _ _=w5 at *
  obtain⟨x0,x1,x2,xf⟩:=H5.o.xb.cells
  have xf0:=xf 0
  have xf1:=xf 1
  have xf2:=xf 2
  have xl:=H5.o.xb.lt
  obtain⟨c0,c1,c2,c3⟩:=H5.o.pb.cells
  simp only at x0 x1 x2
  clear xf
  by_cases hz:r2.kind=0
  ·have e2:=Hfine.o hz
   rw[if_pos hz] at hR2
   subst hR2
   rw[zcb hz]
   have Hc:Hid _:=Hc2.o w5 (by have:=H5.o.pb;rw[e2] at this;exact this) (by have:=Hq.o hz;omega)
   clear hz
   go_wp2_with fail
   refine cM Hc.o ?_
   rintro e6 w6 ⟨rfl,p6,k6⟩
   have H6:Hid _:=IW.call H5.o p6 k6
   clear p6 k6
   clear x0 x1 x2 xf0 xf1 xf2 xl c0 c1 c2 c3
   obtain⟨x0,x1,x2,xf⟩:=H6.o.xb.cells
   have xf0:=xf 0
   have xf1:=xf 1
   have xf2:=xf 2
   have xl:=H6.o.xb.lt
   obtain⟨c0,c1,c2,c3⟩:=H6.o.pb.cells
   simp only at x0 x1 x2
   clear xf
   have H7:Hid _:=H6.o.b bv
   generalize hev:evR r3.kind r3.fat=ev at *
   have Hev:=zh hev
   clear hev
   go_upto_region 16 with fail
   clear x0 x1 x2 xf0 xf1 xf2 xl c0 c1 c2 c3
   generalize w6.setCell _ _=w7 at *
   obtain⟨x0,x1,x2,xf⟩:=H7.o.xb.cells
   have xf0:=xf 0
   have xf1:=xf 1
   have xf2:=xf 2
   have xl:=H7.o.xb.lt
   obtain⟨c0,c1,c2,c3⟩:=H7.o.pb.cells
   simp only at x0 x1 x2
   clear xf
   have hfin:=H7.o.all
   obtain⟨z0,z1,z2,_⟩:=hfin.xb.cells
   have Hfin:Hid _:=And.intro hfin.pb hfin.kp
   simp only at z0 z1 z2
   clear hfin
   go_wp2
   exact bodyPost_ret (v:=.tuple #[.agg #[.int .i64 k,.int .i64 av,.int .i64 bv],ev]) (by simp[results,Tryz.results70,go_sem,z0,z1,z2]) rfl ⟨by rw[Hev.o],Hfin.o⟩
  ·rw[if_neg hz] at hR2
   subst hR2
   have Hev:Hid (evR r2.kind r2.fat=.iface 84 (.agg #[.int .i64 r2.kind,.int .i64 r2.fat])):=zcc hz
   rw[Hev.o]
   clear hz
   go_upto_region 16 with fail
   have hfin:=H5.o.all
   obtain⟨z0,z1,z2,_⟩:=hfin.xb.cells
   have Hfin:Hid _:=And.intro hfin.pb hfin.kp
   simp only at z0 z1 z2
   clear hfin
   go_wp2
   exact bodyPost_ret (v:=.tuple #[.agg #[.int .i64 k,.int .i64 av,.int .i64 0],.iface 84 (.agg #[.int .i64 r2.kind,.int .i64 r2.fat])]) (by simp[results,Tryz.results70,go_sem,z0,z1,z2]) rfl ⟨by rw[Hev.o],Hfin.o⟩
theorem zxg:(Tryz.prog.info? 5).map (·.size)=some 1:=by kernel_rfl
theorem zul:Tryz.prog.cellsOf 5=1:=by kernel_rfl
theorem zv2(n:Nat)(hn:n<=4000000)(w:World):(Instr.makeSlice 62 (.int .i64 (n:Int)) (.int .i64 (n:Int))).run Tryz.prog w=.ok (.slice (some ⟨w.heap.size,0,none⟩) n n) (w.alloc (.cells (madeCells #[.int .u8 0] n) 5)):=by
 obtain⟨i,h1,h2,h3,h4⟩:=zap zju
 have hr:=run_make (P:=Tryz.prog) w 62 5 i _ Tryz.underlying62 h1 h2 .i64 .i64 (n:Int) (n:Int) (by omega) (by omega) (by rw[h4];omega) (by omega)
 rw[h3] at hr
 have e:((n:Int)).toNat * 1=n:=by omega
 rw[e] at hr
 exact hr
theorem zwo(s:ByteArray)(hs:s.size<=4000000)(w:World):Calls Tryz.prog 93 #[.string s] w fun e w'=>e=.returned (.string s)/\Below w.heap.size w w':=by
 by_cases h0:s.size=0
 ·obtain rfl:s=⟨#[]⟩:=ByteArray.ext (Array.eq_empty_of_size_eq_zero h0)
  clear h0 hs
  go_enter Tryz.func93,Tryz.ntmps93
  go_wp2
  go_ret
  exact⟨rfl,Below.refl _ _⟩
 ·have hmk:=zv2 s.size hs w
  obtain⟨M,hM⟩:∃ M,M=madeCells #[Value.int .u8 0] s.size:=⟨_,rfl⟩
  have hMs:M.size=s.size:=by rw[hM];simp[madeCells]
  rw[<-hM] at hmk
  clear hM
  have hcopy:=Lib.run_copy_row_string (P:=Tryz.prog) (w.alloc (.cells M 5)) 62 9 3 5 w.heap.size 0 s.size s.size s M 5 Tryz.underlying62 zxg (MapKept.heap_alloc w _).1 (Nat.le_refl _) (by omega)
  have hrow:(M.toList.take 0++Lib.byteCells s.data.toList++M.toList.drop (0+s.size)).toArray=(Lib.byteCells s.data.toList).toArray:=by
   have:M.toList.drop (0+s.size)=[]:=List.drop_eq_nil_of_le (by rw[Array.length_toList];omega)
   rw[this]
   simp
  rw[hrow] at hcopy
  have hheld:=setRow_heap _ _ M (Lib.byteCells s.data.toList).toArray 5 (0,0) (MapKept.heap_alloc w (.cells M 5)).1
  have hsl:s.data.toList.length=s.size:=by rw[Array.length_toList];rfl
  have hstr:=Lib.run_unsafeString_row (P:=Tryz.prog) ((w.alloc (.cells M 5)).setRow w.heap.size (Lib.byteCells s.data.toList).toArray) 210 3 9 5 Tryz.underlying210 zul w.heap.size (Lib.byteCells s.data.toList).toArray.size (by unfold World.shape?;rw[hheld]) s.data.toList (by intro e;rw[e] at hsl;simp at hsl;omega) (by simp[Lib.byteCells]) (by omega) (by
   intro j x hx
   rw[zb4]
   rw[cell_of_row _ w.heap.size j _ _ _ hheld]
   simp only[Lib.byteCells,List.getElem?_toArray,List.getElem?_map,hx,Option.map_some])
  rw[hsl] at hstr
  have hB:Hid (Below w.heap.size w (((w.alloc (.cells M 5)).setRow w.heap.size (Lib.byteCells s.data.toList).toArray).freeze ⟨w.heap.size,0,none⟩ s.size)):=by
   refine Lib.below_freeze ?_ (p:=⟨w.heap.size,0,none⟩) (Nat.le_refl _) _
   refine((Below.refl _ w).alloc (Nat.le_refl _) (.cells M 5)).trans ?_
   exact⟨rfl,rfl,rfl,by simp,fun k hk=>setRow_other _ _ _ _ (by omega)⟩
  clear hrow hheld hsl
  go_enter Tryz.func93,Tryz.ntmps93
  go_wp2
  go_ret
  exact⟨rfl,hB.out⟩
theorem zj2(s:ByteArray)(hs:s.size<=4000000)(w:World):Calls Tryz.prog 68 #[.string s] w fun e w'=>e=.returned (.string s)/\Below w.heap.size w w':=by
 have Hc:Hid _:=zwo s hs w
 go_enter Tryz.func68,Tryz.ntmps68
 go_wp2_with fail
 refine cM Hc.o ?_
 rintro e1 w1 ⟨rfl,hb⟩
 have Hb:=zh hb
 clear hb
 go_wp2
 go_ret
 exact⟨rfl,Hb.o⟩
def text0(S:ByteArray)(pos:Nat):ByteArray×Rs:=
 if(S.size:Int) - pos < (1:Nat) then(⟨#[]⟩,⟨pos,16,S.size⟩) else if 200 < numAt S pos 1 then(⟨#[]⟩,⟨pos+1,17,pos⟩) else if(S.size:Int) - (pos+1:Nat) < (numAt S pos 1).toNat then(⟨#[]⟩,⟨pos+1,16,S.size⟩) else(S.extract (pos+1) (pos+1+(numAt S pos 1).toNat),⟨pos+1+(numAt S pos 1).toNat,0,0⟩)
theorem zsf(S:ByteArray)(pos:Nat)(ts:List ByteArray):textR S (ts,⟨pos,0,0⟩)=(if(text0 S pos).2.kind=0 then ts++[(text0 S pos).1] else ts,(text0 S pos).2):=by
 unfold textR text0
 have hp:=zch S pos 1
 by_cases h1:(S.size:Int) - pos < (1:Nat)
 ·have:=zbp (S:=S) (n:=1) (pos:=pos) h1
  unfold num0 at this
  simp only
  rw[this,if_pos h1]
  simp[zeh]
 ·have:=zdt (S:=S) (n:=1) (pos:=pos) h1
  unfold num0 at this
  simp only
  rw[this,if_neg h1]
  by_cases h2:200 < numAt S pos 1
  ·rw[if_pos h2]
   simp[zeh,h2,Rs.fail]
  ·rw[if_neg h2]
   have e:((numAt S pos 1).toNat:Int)=numAt S pos 1:=by omega
   by_cases h3:(S.size:Int) - (pos+1:Nat) < (numAt S pos 1).toNat
   ·rw[if_pos h3]
    rw[e] at h3
    simp only[zeh,if_true,if_neg h2,if_pos h3,Rs.fail]
    rfl
   ·rw[if_neg h3]
    rw[e] at h3
    simp only[zeh,if_true,if_neg h2,if_neg h3]
theorem zo2(w:World)(rp:Nat)(S:ByteArray)(pos:Nat)(h:PBox w rp S pos)(hS:S.size<=4000000)(hp:pos<=4000000):Calls Tryz.prog 35 #[.pointer (some ⟨rp,0,none⟩)] w fun e w'=>e=.returned (.tuple #[.string (text0 S pos).1,evR (text0 S pos).2.kind (text0 S pos).2.fat])/\PBox w' rp S (text0 S pos).2.pos/\Kp [rp] w w':=by
 have H:=zh h
 have hv:=zch S pos 1
 obtain⟨c0,c1,c2,c3⟩:=h.cells
 obtain⟨R,hR⟩:∃ R,R=text0 S pos:=⟨_,rfl⟩
 rw[<-hR]
 unfold text0 at hR
 clear h
 by_cases h1:(S.size:Int) - pos < (1:Nat)
 ·rw[if_pos h1] at hR
  subst hR
  have Hc:Hid _:=zcq w rp S pos 1 H.o hS hp h1
  go_enter Tryz.func35,Tryz.ntmps35
  go_wp2_with fail
  refine cM Hc.o ?_
  rintro e1 w1 ⟨rfl,q1⟩
  have Hq1:=zh q1
  clear c0 c1 c2 c3 q1
  go_wp2
  exact bodyPost_ret (v:=.tuple #[.string ⟨#[]⟩,.iface 84 (.agg #[.int .i64 16,.int .i64 S.size])]) (by simp[results,Tryz.results35,go_sem]) rfl ⟨rfl,Hq1.o⟩
 rw[if_neg h1] at hR
 have Hc:Hid _:=zel w rp S pos 1 H.o hS (by omega) (by omega)
 obtain⟨k,hk⟩:∃ k:Nat,numAt S pos 1=(k:Int):=⟨(numAt S pos 1).toNat,by omega⟩
 rw[hk] at hR Hc hv
 rw[Int.toNat_natCast] at hR
 clear hk
 have hk8:k < 256:=by omega
 by_cases h2:200 < (k:Int)
 ·rw[if_pos h2] at hR
  subst hR
  go_enter Tryz.func35,Tryz.ntmps35
  go_wp2_with fail
  refine cM Hc.o ?_
  rintro e1 w1 ⟨rfl,q1⟩
  have Hq1:=zh q1
  clear c0 c1 c2 c3 q1
  have Hr:Hid _:=zbo 17 pos w1
  go_wp2_with fail
  refine cM Hr.o ?_
  rintro e2 w2 ⟨rfl,rfl⟩
  go_wp2
  exact bodyPost_ret (v:=.tuple #[.string ⟨#[]⟩,.iface 84 (.agg #[.int .i64 17,.int .i64 pos])]) (by simp[results,Tryz.results35,go_sem]) rfl ⟨rfl,Hq1.o⟩
 rw[if_neg h2] at hR
 by_cases h3:(S.size:Int) - (pos+1:Nat) < k
 ·rw[if_pos h3] at hR
  subst hR
  go_enter Tryz.func35,Tryz.ntmps35
  go_wp2_with fail
  refine cM Hc.o ?_
  rintro e1 w1 ⟨rfl,p1,k1⟩
  have Hk1:=zh k1
  have Ht:Hid _:=zfo w1 rp S (pos+1) k p1 hS (by omega) h3
  clear c0 c1 c2 c3 p1 k1
  go_wp2_with fail
  refine cM Ht.o ?_
  rintro e2 w2 ⟨rfl,p2,k2⟩
  have Hk2:Hid _:=Kp.trans Hk1.o k2
  have Hp2:=zh p2
  clear p2 k2
  have Hcl:Hid _:=zj2 ⟨#[]⟩ (by decide) w2
  go_wp2_with fail
  refine cM Hcl.o ?_
  rintro e3 w3 ⟨rfl,hb3⟩
  have Hq:Hid (PBox w3 rp S ((pos+1:Nat):Int)/\_):=⟨PBox.kp Hp2.o (Kp.zB (X:=[]) hb3) (by simp),Kp.trans Hk2.o (Kp.zB hb3)⟩
  clear hb3
  go_wp2
  exact bodyPost_ret (v:=.tuple #[.string ⟨#[]⟩,.iface 84 (.agg #[.int .i64 16,.int .i64 S.size])]) (by simp[results,Tryz.results35,go_sem]) rfl ⟨rfl,Hq.o⟩
 ·rw[if_neg h3] at hR
  subst hR
  go_enter Tryz.func35,Tryz.ntmps35
  go_wp2_with fail
  refine cM Hc.o ?_
  rintro e1 w1 ⟨rfl,p1,k1⟩
  have Hk1:=zh k1
  have Ht:Hid _:=zkz w1 rp S (pos+1) k p1 hS (by omega)
  clear c0 c1 c2 c3 p1 k1
  go_wp2_with fail
  refine cM Ht.o ?_
  rintro e2 w2 ⟨rfl,p2,k2⟩
  have Hk2:Hid _:=Kp.trans Hk1.o k2
  have Hp2:=zh p2
  clear p2 k2
  have Hcl:Hid _:=zj2 (S.extract (pos+1) (pos+1+k)) (by simp[ByteArray.size_extract];omega) w2
  generalize hT:S.extract (pos+1) (pos+1+k)=T at *
  have HT:=zh hT
  clear hT
  go_wp2_with fail
  refine cM Hcl.o ?_
  rintro e3 w3 ⟨rfl,hb3⟩
  have Hq:Hid (PBox w3 rp S ((pos+1+k:Nat):Int)/\_):=⟨PBox.kp Hp2.o (Kp.zB (X:=[]) hb3) (by simp),Kp.trans Hk2.o (Kp.zB hb3)⟩
  clear hb3
  go_wp2
  exact bodyPost_ret (v:=.tuple #[.string T,.nilIface]) (by simp[results,Tryz.results35,go_sem]) rfl ⟨by rw[HT.o];rfl,Hq.o⟩
theorem zih{w w1:World}{v:Value}(hg:w.grownBy w1 v.ownBlock):Kp v.ownBlock.toList w w1:=Kp.of_grown hg (fun k hk=>by rw[hk];simp)
structure Fw(w0 w:World)(fs:List FnAt)(vt vf:Value)(bp:Nat)(free sA:Int)(vi:Value)(l:List In):Prop where
 box:w.heap[bp]? = some (.cells #[.int .i64 free,.int .i64 sA,vi] 47)
 row:w.ownsRow (w0.heap.size+4) 44 3 vi l.length (inRow l)
 ap:Apart w0.heap.size vt vf fs bp
 av:∀ g,vi.ownBlock=some g->Apart w0.heap.size vt vf fs g/\g≠bp
end Go.Proofs.YtkcmachfagcnaaaGreatDoor.C12
