/- Part of Greater. -/
import Derived.Test.YtkcmachfagcnaaaGreatDoorB05
set_option maxHeartbeats 8000000
set_option maxRecDepth 100000
namespace Go.Proofs.YtkcmachfagcnaaaGreatDoor.C12
open Go.RowKit Go.Deep
theorem zet(S:ByteArray)(r:Rs):isTwo (r.num S 2).1=true:=by
 have h:=r.num_range S 2
 unfold isTwo
 simp
 omega
theorem zg1{r:Rs}{k pl:Int}(hk:k≠0):(r.fail k pl).kind≠0:=by
 unfold Rs.fail
 split
 ·exact hk
 ·assumption
theorem zus(x:In)(h:isOp x.op=true):x.st 2=(if argOk (form x.op) 0 x.a=true then((big x.op 1++argB (form x.op) 0 x.a)++argB (form x.op) 1 x.b,argOk (form x.op) 1 x.b) else(big x.op 1++argB (form x.op) 0 x.a,false)):=by
 have h0:x.st 0=(big x.op 1,true):=by rw[In.st,h]
 have h1:x.st 1=(big x.op 1++argB (form x.op) 0 x.a,argOk (form x.op) 0 x.a):=by
  rw[In.st,h0]
  rfl
 rw[In.st,h1]
 simp only[In.arg]
 split <;> simp_all
theorem In.ok_spec{x:In}(h:x.ok=true):isOp x.op=true/\argOk (form x.op) 0 x.a=true/\argOk (form x.op) 1 x.b=true/\x.bytes=big x.op 1++(argB (form x.op) 0 x.a++argB (form x.op) 1 x.b):=by
 have hop:isOp x.op=true:=by
  cases hc:isOp x.op with
  | true=>rfl
  | false=>
   unfold In.ok at h
   have h0:(x.st 0).2=false:=by rw[In.st];exact hc
   rw[<-x.st_stop h0 (by omega),h0] at h
   cases h
 have h2:=zus x hop
 unfold In.ok at h
 unfold In.bytes
 rw[h2] at h ⊢
 split at h
 ·rename_i ha
  rw[if_pos ha]
  exact⟨hop,ha,h,List.append_assoc _ _ _⟩
 ·cases h
theorem In.ok_of{x:In}(hop:isOp x.op=true)(ha:argOk (form x.op) 0 x.a=true)(hb:argOk (form x.op) 1 x.b=true):x.ok=true:=by
 unfold In.ok
 rw[zus x hop,if_pos ha]
 exact hb
theorem zjt{S:ByteArray} : ∀ (f:List UInt8) (i:Nat) (s:In×Rs),(zcm S f i s).2.kind=0->s.2.kind=0
 | [],_,_,h=>h
 | c :: f,i,s,h=>by
  rw[zcm] at h
  split at h
  ·assumption
  ·exact h
theorem zv8{S:ByteArray}{r:Rs}(h:(insR S r).2.kind=0):(insR S r).1.ok=true:=by
 unfold insR at *
 have hs:=zjt _ _ _ h
 have hop:isOp (r.num S 1).1=true:=by
  cases hc:isOp (r.num S 1).1 with
  | true=>rfl
  | false=>
   unfold zdw at hs
   rw[hc] at hs
   exact absurd hs (zg1 (by decide))
 have hst:zdw S r=(⟨(r.num S 1).1,0,0⟩,(r.num S 1).2):=by unfold zdw;rw[hop];rfl
 rw[hst] at hs h ⊢
 generalize r.num S 1=N at *
 obtain⟨op,r1⟩:=N
 simp only at *
 have ec:((110:UInt8)=105)=False:=by simp
 rcases zob op with hf | hf | hf | hf
 all_goals
  rw[hf] at h ⊢
  simp only[zcm,argR,ec,if_false,if_true] at h ⊢
 ·exact In.ok_of hop (by rw[hf];rfl) (by rw[hf];rfl)
 ·rw[if_pos hs] at h ⊢
  simp only at h ⊢
  split at h
  ·exact absurd h (zg1 (by decide))
  ·rename_i hb
   exact In.ok_of (x:=⟨op,signed (r1.num S 4).1,0⟩) hop (by rw[hf];simp[argOk];omega) (by rw[hf];rfl)
 ·rw[if_pos hs] at h ⊢
  exact In.ok_of (x:=⟨op,(r1.num S 2).1,0⟩) hop (by rw[hf];simp[argOk,zet]) (by rw[hf];rfl)
 ·rw[if_pos hs] at h ⊢
  have h2:(r1.num S 2).2.kind=0:=by
   split at h
   ·assumption
   ·assumption
  rw[if_pos h2]
  exact In.ok_of (x:=⟨op,(r1.num S 2).1,((r1.num S 2).2.num S 2).1⟩) hop (by rw[hf];simp[argOk,zet]) (by rw[hf];simp[argOk,zet])
theorem zqo{S:ByteArray} : ∀ (n:Nat) (s:List In×Rs),(insN S n s).2.kind=0->s.2.kind=0/\(s.1.all In.ok=true->(insN S n s).1.all In.ok=true)/\(insN S n s).1.length=s.1.length+n
 | 0,s,h=>⟨h,id,rfl⟩
 | n+1,s,h=>by
  rw[insN] at h ⊢
  split at h
  ·rename_i hk
   rw[if_pos hk]
   obtain⟨h1,h2,h3⟩:=zqo n _ h
   refine⟨hk,fun ha=>h2 (by simp only[List.all_append,ha,Bool.true_and,List.all_cons,List.all_nil,Bool.and_true];exact zv8 h1),?_⟩
   rw[h3,lA,List.length_singleton]
   omega
  ·rename_i hk
   exact absurd h hk
theorem zur{v:Int}(h:isTwo v=true):((v.toNat:Nat):Int)=v:=by
 unfold isTwo at h
 simp at h
 omega
theorem zwc{S:ByteArray}{r:Rs}(h:(funR S r).2.kind=0):(funR S r).1.ok=true:=by
 unfold funR zgx at *
 obtain⟨_,h2,h3⟩:=zqo _ _ h
 unfold Fn.ok
 simp only[zet,h2 rfl,h3,List.length_nil,Nat.zero_add,zur (zet S _),Bool.and_self]
theorem zmn{S:ByteArray} : ∀ (n:Nat) (s:List Fn×Rs),(funsR S n s).2.kind=0->s.2.kind=0/\(s.1.all Fn.ok=true->(funsR S n s).1.all Fn.ok=true)/\(funsR S n s).1.length=s.1.length+n
 | 0,s,h=>⟨h,id,rfl⟩
 | n+1,s,h=>by
  rw[funsR] at h ⊢
  split at h
  ·rename_i hk
   rw[if_pos hk]
   obtain⟨h1,h2,h3⟩:=zmn n _ h
   refine⟨hk,fun ha=>h2 (by simp only[List.all_append,ha,Bool.true_and,List.all_cons,List.all_nil,Bool.and_true];exact zwc h1),?_⟩
   rw[h3,lA,List.length_singleton]
   omega
  ·rename_i hk
   exact absurd h hk
theorem zse{S:ByteArray}{s:List ByteArray×Rs}(h:(textR S s).2.kind=0)(ha:s.1.all zbi=true):(textR S s).1.all zbi=true/\(textR S s).1.length=s.1.length+1:=by
 have hr:=s.2.num_range S 1
 unfold textR zeh at *
 split at h
 ·rename_i hk
  rw[if_pos hk]
  split at h
  ·exact absurd h (zg1 (by decide))
  ·rename_i h1
   rw[if_neg h1]
   split at h
   ·exact absurd h (zg1 (by decide))
   ·rename_i h2
    rw[if_neg h2]
    refine⟨?_,by simp⟩
    simp only[List.all_append,ha,Bool.true_and,List.all_cons,List.all_nil,Bool.and_true,zbi,ByteArray.size_extract]
    simp
    omega
 ·rename_i hk
  exact absurd h hk
theorem zi5{S:ByteArray} : ∀ (n:Nat) (s:List ByteArray×Rs),(zc7 S n s).2.kind=0->s.2.kind=0/\(s.1.all zbi=true->(zc7 S n s).1.all zbi=true/\(zc7 S n s).1.length=s.1.length+n)
 | 0,s,h=>⟨h,fun x=>⟨x,rfl⟩⟩
 | n+1,s,h=>by
  rw[zc7] at h ⊢
  split at h
  ·rename_i hk
   rw[if_pos hk]
   obtain⟨h1,h2⟩:=zi5 n _ h
   refine⟨hk,fun ha=>?_⟩
   obtain⟨a1,a2⟩:=zse h1 ha
   obtain⟨b1,b2⟩:=h2 a1
   exact⟨b1,by rw[b2,a2];omega⟩
  ·rename_i hk
   exact absurd h hk
theorem zs6{S:ByteArray}{n:Nat}{r:Rs}(h:(r.num S n).2.kind=0):r.kind=0:=by
 unfold Rs.num at h
 split at h
 ·assumption
 ·exact h
theorem zwm(S:ByteArray)(h:(decR S).2.1=0):(decR S).1.ok=true:=by
 unfold decR at *
 split at h
 ·cases h
 ·rename_i hsz
  rw[if_neg hsz]
  unfold ziw ziv zfy zf4 at *
  split at h
  ·rename_i hk
   rw[if_pos hk]
   have h1:∀ r,(zee S r).kind=0->r.kind=0:=fun r hr=>by
    unfold zee at hr
    split at hr
    ·exact absurd hr (zg1 (by decide))
    ·exact hr
   obtain⟨a0,a1,a2⟩:=zmn _ _ (h1 _ hk)
   obtain⟨_,b1⟩:=zi5 _ _ (zs6 a0)
   obtain⟨b2,b3⟩:=b1 rfl
   unfold Cd.ok
   simp only[a1 rfl,a2,b2,b3,List.length_nil,Nat.zero_add,zur (zet S _),zet,Bool.and_self]
  ·rename_i hk
   exact absurd h hk
theorem FW.onto{wb w w':World}{wp:Nat}(h:FW wb.heap.size wp w w')(hb:Below wb.heap.size wb w):Below wb.heap.size wb w':=hb.trans (h.below hb.size)
theorem zr9(wb:World)(wp:Nat)(w:World)(l:List UInt8)(f:Fn)(q:Option Addr)(qc:Nat)(hx:f.ok=true)(hS:ShIn wb)(hI:InsIn wb q f.ins)(hb:Below wb.heap.size wb w)(h:Wr wb.heap.size wp w l)(hwp:wb.heap.size<=wp)(hpl:wp < w.heap.size)(hl:l.length+f.bytes.length<=1000000000) :
  Calls Tryz.prog 32 #[.pointer (some ⟨wp,0,none⟩),.agg #[.int .i64 f.free,.int .i64 f.sA,.slice q f.ins.length qc]] w fun e w'=>e=.returned (.tuple #[])/\Wr wb.heap.size wp w' (l++f.bytes)/\FW wb.heap.size wp w w':=by
 unfold Fn.ok at hx
 simp only[Bool.and_eq_true] at hx
 have HAll:=zh hx.2.2.2
 obtain⟨R,hR⟩:∃ R,R=l++f.bytes:=⟨_,rfl⟩
 rw[<-hR]
 rw[Fn.bytes_len] at hl
 unfold Fn.bytes at hR
 have F0:FW wb.heap.size wp w (w.alloc (.cells #[.int .i64 f.free,.int .i64 f.sA,.slice q f.ins.length qc] 47)):=(FW.refl wb.heap.size wp w).alloc _
 have hx0:FBox (w.alloc (.cells #[.int .i64 f.free,.int .i64 f.sA,.slice q f.ins.length qc] 47)) w.heap.size f q qc:=(MapKept.heap_alloc w _).1
 have hne:w.heap.size≠wp:=by omega
 have Hne:=zh hne
 have h0:=h.alloc (.cells #[.int .i64 f.free,.int .i64 f.sA,.slice q f.ins.length qc] 47)
 have hnl:=hI.len
 have Hc:Hid _:=zcd wb.heap.size wp _ l f.free h0 hwp (by omega)
 have HF0:=zh F0
 have HS:=zh hS
 have HI:=zh hI
 have Hx0:=zh hx0
 have HR:=zh hR
 have Hb:=zh hb
 have Hpl:=zh hpl
 clear F0 hx0 hne h0 hR hS h hI hx hb hpl
 go_enter Tryz.func32,Tryz.ntmps32
 go_upto_region 1 with fail
 generalize w.alloc _=w0 at *
 obtain⟨x0,x1,x2,x3⟩:=FBox.cells Hx0.o
 go_wp2_with fail
 refine cM Hc.o ?_
 rintro e1 w1 ⟨rfl,W1,f1⟩
 have Hx1:Hid _:=f1.box Hx0.o (by decide) Hne.o
 have HF1:Hid _:=FW.trans HF0.o f1
 clear x0 x1 x2 x3 f1
 obtain⟨x0,x1,x2,x3⟩:=FBox.cells Hx1.o
 have Hc:Hid _:=zcd wb.heap.size wp w1 _ f.sA W1 hwp (by simp only[lA,zay];omega)
 clear W1
 go_wp2_with fail
 refine cM Hc.o ?_
 rintro e1 w2 ⟨rfl,W1,f1⟩
 have Hx2:Hid _:=f1.box Hx1.o (by decide) Hne.o
 have HF2:Hid _:=FW.trans HF1.o f1
 clear x0 x1 x2 x3 f1
 obtain⟨x0,x1,x2,x3⟩:=FBox.cells Hx2.o
 have Hc:Hid _:=zcd wb.heap.size wp w2 _ f.ins.length W1 hwp (by simp only[lA,zay];omega)
 clear W1
 go_wp2_with fail
 refine cM Hc.o ?_
 rintro e1 w3 ⟨rfl,W1,f1⟩
 have Hx3:Hid _:=f1.box Hx2.o (by decide) Hne.o
 have HF3:Hid _:=FW.trans HF2.o f1
 clear x0 x1 x2 x3 f1
 obtain⟨x0,x1,x2,x3⟩:=FBox.cells Hx3.o
 have Q0:Hid (∃ l2:List UInt8,l2++(f.ins.drop 0).flatMap In.bytes=R/\l2.length+((f.ins.drop 0).flatMap In.bytes).length<=1000000000/\(f.ins.drop 0).all In.ok=true/\Wr wb.heap.size wp w3 l2/\FW wb.heap.size wp w w3):=
  ⟨_,by rw[HR.o];simp only[List.append_assoc,List.drop_zero],by simp only[lA,zay,List.drop_zero];omega,HAll.o,W1,HF3.o⟩
 clear W1
 go_wp2_with fail
 go_loopg [22] f.ins.length (fun g iv wr=>∃ i:Nat,iv=.int .i64 i/\i<=f.ins.length/\g=f.ins.length - i/\Hid (∃ l2:List UInt8,l2++(f.ins.drop i).flatMap In.bytes=R/\l2.length+((f.ins.drop i).flatMap In.bytes).length<=1000000000/\(f.ins.drop i).all In.ok=true/\Wr wb.heap.size wp wr l2/\FW wb.heap.size wp w wr))
 case atStart=>exact⟨0,rfl,by omega,by omega,Q0⟩
 case round=>
  clear Q0 x0 x1 x2 x3
  obtain⟨i,rfl,hi1,rfl,HQ⟩:=hrel
  obtain⟨l2,r1,r2,r3,r4,r5⟩:=HQ.o
  by_cases hi:i < f.ins.length
  ·have hi':(i:Int) < f.ins.length:=by omega
   obtain⟨b,o,hq,hbw,y0,y1,y2⟩:=HI.o.get i hi
   subst hq
   rw[zct In.ok f.ins i hi,Bool.and_eq_true] at r3
   rw[zdh In.bytes f.ins i hi] at r1 r2
   generalize f.ins[i]'hi=x at *
   obtain⟨kk,hkk,hk26⟩:=zc8 (In.ok_op r3.1)
   obtain⟨op,a,b'⟩:=x
   simp only at hkk
   subst hkk
   have hbe:=r5.onto Hb.o
   have v0:=(hbe.cell (p:=⟨b,o+i * 3,none⟩) hbw).trans y0
   have v1:=(hbe.cell (p:=⟨b,o+i * 3+1,none⟩) hbw).trans y1
   have v2:=(hbe.cell (p:=⟨b,o+i * 3+2,none⟩) hbw).trans y2
   have hbr:=lL hbw hbe.size
   have hxb:IBox (wr.alloc (.cells #[.int .i64 (kk:Int),.int .i64 a,.int .i64 b'] 44)) wr.heap.size ⟨kk,a,b'⟩:=(MapKept.heap_alloc wr _).1
   have hF:=r5.alloc (.cells #[.int .i64 (kk:Int),.int .i64 a,.int .i64 b'] 44)
   have Hc:Hid _:=zr8 wb.heap.size wp (wr.alloc (.cells #[.int .i64 (kk:Int),.int .i64 a,.int .i64 b'] 44)) l2 kk hk26 a b' r3.1 (ShIn.below HS.o (hF.onto Hb.o)) (r4.alloc _) hwp (by have:=Hpl.o;have:=r5.size;simp;omega) HS.o.lt (by rw[lA] at r2;omega)
   have HFa:=zh hF
   have Hxb:=zh hxb
   have Q:Hid ((l2++In.bytes ⟨kk,a,b'⟩)++(f.ins.drop (i+1)).flatMap In.bytes=R/\(l2++In.bytes ⟨kk,a,b'⟩).length+((f.ins.drop (i+1)).flatMap In.bytes).length<=1000000000/\_):=⟨by rw[<-r1,List.append_assoc],by rw[lA] at r2 ⊢;omega,r3.2⟩
   clear r1 r2 r3 r4 r5 hbe hbw y0 y1 y2 hxb hF
   go_upto_region 7 with fail
   clear v0 v1 v2 hbr
   generalize wr.alloc _=w4 at *
   obtain⟨x0,x1,x2,x3⟩:=IBox.cells Hxb.o
   simp only at x0 x1 x2
   go_wp2_with fail
   refine cM Hc.o ?_
   rintro e1 w5 ⟨rfl,W5,f5⟩
   have Q5:Hid (∃ l2:List UInt8,l2++(f.ins.drop (i+1)).flatMap In.bytes=R/\l2.length+((f.ins.drop (i+1)).flatMap In.bytes).length<=1000000000/\(f.ins.drop (i+1)).all In.ok=true/\Wr wb.heap.size wp w5 l2/\FW wb.heap.size wp w w5):=⟨_,Q.o.1,Q.o.2.1,Q.o.2.2,W5,FW.trans HFa.o f5⟩
   clear x0 x1 x2 x3 Q W5 f5
   go_wp2
   go_roundg (f.ins.length - (i+1))
   case measure=>omega
   case rel=>exact⟨i+1,by first | rfl | (congr 1;omega) | go_num,by omega,rfl,Q5⟩
  ·have hi':¬ (i:Int) < f.ins.length:=by omega
   rw[zbk f.ins i hi,List.flatMap_nil,List.append_nil] at r1
   have Q:Hid (_/\_):=⟨r1 ▸ r4,r5⟩
   clear r1 r2 r3 r4 r5
   go_wp2
   go_end0
   exact⟨rfl,Q.o⟩
theorem CBox.fw{B wp:Nat}{w w':World}{b:Nat}{p:Option Addr}{n cap:Nat}{p':Option Addr}{n' cap':Nat}(h:CBox w b p n cap p' n' cap')(hf:FW B wp w w')(hb:b≠wp):CBox w' b p n cap p' n' cap':=hf.box h (by decide) hb
theorem zow(wb:World)(wp:Nat)(w:World)(ts:List ByteArray)(fs:List Fn)(p:Option Addr)(cap:Nat)(p':Option Addr)(cap':Nat)(hx:Cd.ok ⟨ts,fs⟩=true)(hS:ShIn wb)(hT:zX wb p ts)(hF:zF wb p' fs)(hb:Below wb.heap.size wb w)(h:Wr wb.heap.size wp w [])(hwp:wb.heap.size<=wp)(hpl:wp < w.heap.size)(hl:(Cd.bytes ⟨ts,fs⟩).length<=4000000) :
  Calls Tryz.prog 22 #[.pointer (some ⟨wp,0,none⟩),.agg #[.slice p ts.length cap,.slice p' fs.length cap']] w fun e w'=>e=.returned (.tuple #[])/\Wr wb.heap.size wp w' (Cd.bytes ⟨ts,fs⟩)/\FW wb.heap.size wp w w':=by
 unfold Cd.ok at hx
 rw[zbj,zbj] at hx
 simp only[Bool.and_eq_true,decide_eq_true_eq] at hx
 obtain⟨o1,o2,o3,o4⟩:=hx
 have O2:=zh o2
 have O4:=zh o4
 have hlen:=Cd.bytes_len ts fs
 obtain⟨R,hR⟩:∃ R,R=Cd.bytes ⟨ts,fs⟩:=⟨_,rfl⟩
 rw[<-hR] at hl hlen ⊢
 unfold Cd.bytes at hR
 simp only at hR
 have F0:FW wb.heap.size wp w (w.alloc (.cells #[.slice p ts.length cap,.slice p' fs.length cap'] 25)):=(FW.refl wb.heap.size wp w).alloc _
 have hx0:CBox (w.alloc (.cells #[.slice p ts.length cap,.slice p' fs.length cap'] 25)) w.heap.size p ts.length cap p' fs.length cap':=(MapKept.heap_alloc w _).1
 have hne:w.heap.size≠wp:=by omega
 have Hne:=zh hne
 have h0:=h.alloc (.cells #[.slice p ts.length cap,.slice p' fs.length cap'] 25)
 have Hc:Hid _:=zi2 wb.heap.size wp _ [] {data:=#[77,76,49]} h0 hwp (by decide)
 have HF0:=zh F0
 have HS:=zh hS
 have HT:=zh hT
 have HF:=zh hF
 have Hx0:=zh hx0
 have HR:=zh hR
 have Hb:=zh hb
 have Hpl:=zh hpl
 have Hlen:=zh hlen
 clear F0 hx0 hne h0 hR hS h hT hF hb hpl o2 o4 hlen
 go_enter Tryz.func22,Tryz.ntmps22
 go_upto_region 1 with fail
 generalize w.alloc _=w0 at *
 go_wp2_with fail
 refine cM Hc.o ?_
 rintro e1 w1 ⟨rfl,W1,f1⟩
 have Hx1:Hid _:=CBox.fw Hx0.o f1 Hne.o
 have HF1:Hid _:=FW.trans HF0.o f1
 clear f1
 obtain⟨x0,x1,x2⟩:=CBox.cells Hx1.o
 have Hc:Hid _:=zcd wb.heap.size wp w1 _ ts.length W1 hwp (by simp)
 clear W1
 go_wp2_with fail
 refine cM Hc.o ?_
 rintro e1 w2 ⟨rfl,W1,f1⟩
 have Hx2:Hid _:=CBox.fw Hx1.o f1 Hne.o
 have HF2:Hid _:=FW.trans HF1.o f1
 clear x0 x1 x2 f1
 obtain⟨x0,x1,x2⟩:=CBox.cells Hx2.o
 have Q0:Hid (∃ l2:List UInt8,l2++((ts.drop 0).flatMap textB++(big fs.length 2++fs.flatMap Fn.bytes))=R/\(ts.drop 0).all zbi=true/\Wr wb.heap.size wp w2 l2/\FW wb.heap.size wp w w2):=
  ⟨_,by rw[HR.o];simp only[List.append_assoc,List.drop_zero,List.nil_append],O2.out,W1,HF2.o⟩
 clear W1
 go_wp2_with fail
 go_loopg [18] ts.length (fun g iv wr=>∃ i:Nat,iv=.int .i64 i/\i<=ts.length/\g=ts.length - i/\Hid (∃ l2:List UInt8,l2++((ts.drop i).flatMap textB++(big fs.length 2++fs.flatMap Fn.bytes))=R/\(ts.drop i).all zbi=true/\Wr wb.heap.size wp wr l2/\FW wb.heap.size wp w wr)/\Hid (CBox wr w.heap.size p ts.length cap p' fs.length cap'))
 case atStart=>exact⟨0,rfl,by omega,by omega,Q0,Hx2⟩
 case round=>
  clear Q0 x0 x1 x2
  obtain⟨i,rfl,hi1,rfl,HQ,Hxr⟩:=hrel
  obtain⟨l2,r1,r3,r4,r5⟩:=HQ.o
  by_cases hi:i < ts.length
  ·have hi':(i:Int) < ts.length:=by omega
   obtain⟨b,o,hq,hbw,y0⟩:=HT.o.get i hi
   subst hq
   rw[zct zbi ts i hi,Bool.and_eq_true] at r3
   rw[zdh textB ts i hi] at r1
   generalize ts[i]'hi=x at *
   have h2:x.size<=200:=by
    have:=of_decide_eq_true r3.1
    omega
   have hbe:=r5.onto Hb.o
   have v0:=(hbe.cell (p:=⟨b,o+i,none⟩) hbw).trans y0
   have hbr:=lL hbw hbe.size
   have hlen2:l2.length+(1+x.size)<=4000000:=by
    have:=congrArg List.length r1
    simp only[lA,zi6] at this
    omega
   have Hc:Hid _:=zlv wb.heap.size wp wr l2 x.size r4 hwp (by omega)
   have HFr:=zh r5
   have Q:Hid (((l2++big x.size 1)++x.data.toList)++((ts.drop (i+1)).flatMap textB++(big fs.length 2++fs.flatMap Fn.bytes))=R/\_):=⟨by rw[<-r1];simp only[List.append_assoc,textB],r3.2⟩
   clear r1 r3 r4 r5 hbe hbw y0
   go_wp2_with fail
   refine cM Hc.o ?_
   rintro e1 w3 ⟨rfl,W3,f3⟩
   have HF3:Hid _:=FW.trans HFr.o f3
   have Hx3:Hid _:=CBox.fw Hxr.o f3 Hne.o
   clear v0 hbr f3
   have Hc:Hid _:=zi2 wb.heap.size wp w3 _ x W3 hwp (by simp only[lA,zay];omega)
   clear W3
   go_wp2_with fail
   refine cM Hc.o ?_
   rintro e1 w4 ⟨rfl,W4,f4⟩
   have Hx4:Hid _:=CBox.fw Hx3.o f4 Hne.o
   have Q4:Hid (∃ l2:List UInt8,l2++((ts.drop (i+1)).flatMap textB++(big fs.length 2++fs.flatMap Fn.bytes))=R/\(ts.drop (i+1)).all zbi=true/\Wr wb.heap.size wp w4 l2/\FW wb.heap.size wp w w4):=⟨_,Q.o.1,Q.o.2,W4,FW.trans HF3.o f4⟩
   clear f4 W4 Q
   go_wp2
   go_roundg (ts.length - (i+1))
   case measure=>omega
   case rel=>exact⟨i+1,by first | rfl | (congr 1;omega) | go_num,by omega,rfl,Q4,Hx4⟩
  ·have hi':¬ (i:Int) < ts.length:=by omega
   rw[zbk ts i hi,List.flatMap_nil,List.nil_append] at r1
   have hlen2:l2.length+(2+(fs.flatMap Fn.bytes).length)<=4000000:=by
    have:=congrArg List.length r1
    simp only[lA,zay] at this
    omega
   obtain⟨x0,x1,x2⟩:=CBox.cells Hxr.o
   have Hc:Hid _:=zcd wb.heap.size wp wr l2 fs.length r4 hwp (by omega)
   have HFr:=zh r5
   have R1:Hid ((l2++big fs.length 2)++fs.flatMap Fn.bytes=R):=by unfold Hid;rw[List.append_assoc];exact r1
   clear r1 r3 r4 r5
   go_wp2_with fail
   refine cM Hc.o ?_
   rintro e1 w3 ⟨rfl,W3,f3⟩
   have Hx3:Hid _:=CBox.fw Hxr.o f3 Hne.o
   clear x0 x1 x2
   obtain⟨x0,x1,x2⟩:=CBox.cells Hx3.o
   have Q0:Hid (∃ l2:List UInt8,l2++(fs.drop 0).flatMap Fn.bytes=R/\(fs.drop 0).all Fn.ok=true/\Wr wb.heap.size wp w3 l2/\FW wb.heap.size wp w w3):=⟨_,R1.out,O4.out,W3,FW.trans HFr.o f3⟩
   clear W3 f3 R1
   go_wp2_with fail
   go_loopg [38] fs.length (fun g iv wr=>∃ k:Nat,iv=.int .i64 k/\k<=fs.length/\g=fs.length - k/\Hid (∃ l2:List UInt8,l2++(fs.drop k).flatMap Fn.bytes=R/\(fs.drop k).all Fn.ok=true/\Wr wb.heap.size wp wr l2/\FW wb.heap.size wp w wr))
   case atStart=>exact⟨0,rfl,by omega,by omega,Q0⟩
   case round=>
    clear Q0 x0 x1 x2
    obtain⟨k,rfl,hk1,rfl,HQ⟩:=hrel
    obtain⟨l2,r1,r3,r4,r5⟩:=HQ.o
    by_cases hk:k < fs.length
    ·have hk':(k:Int) < fs.length:=by omega
     obtain⟨b,o,q,qc,hq,hbw,hfc,hIn⟩:=HF.o.get k hk
     subst hq
     have hbe:=r5.onto Hb.o
     have hfc2:=hfc.below hbw hbe
     have hbr:=lL hbw hbe.size
     rw[zct Fn.ok fs k hk,Bool.and_eq_true] at r3
     rw[zdh Fn.bytes fs k hk] at r1
     generalize fs[k]'hk=f at *
     obtain⟨y0,y1,y2⟩:=hfc2
     have hfb:FBox (wr.alloc (.cells #[.int .i64 f.free,.int .i64 f.sA,.slice q f.ins.length qc] 47)) wr.heap.size f q qc:=(MapKept.heap_alloc wr _).1
     have hF2:=r5.alloc (.cells #[.int .i64 f.free,.int .i64 f.sA,.slice q f.ins.length qc] 47)
     have hlen3:l2.length+f.bytes.length<=1000000000:=by
      have:=congrArg List.length r1
      simp only[lA] at this
      omega
     have Hc:Hid _:=zr9 wb wp (wr.alloc (.cells #[.int .i64 f.free,.int .i64 f.sA,.slice q f.ins.length qc] 47)) l2 f q qc r3.1 HS.o hIn (hF2.onto Hb.o) (r4.alloc _) hwp (by have:=Hpl.o;have:=r5.size;simp;omega) hlen3
     have Hfb:=zh hfb
     have HF2:=zh hF2
     have Q:Hid ((l2++Fn.bytes f)++(fs.drop (k+1)).flatMap Fn.bytes=R/\_):=⟨by rw[<-r1,List.append_assoc],r3.2⟩
     clear r1 r3 r4 r5 hbe hfc hIn hbw hfb hF2 hlen3
     go_upto_region 13 with fail
     clear y0 y1 y2 hbr
     generalize wr.alloc _=w4 at *
     obtain⟨z0,z1,z2,z3⟩:=FBox.cells Hfb.o
     go_wp2_with fail
     refine cM Hc.o ?_
     rintro e1 w5 ⟨rfl,W5,f5⟩
     have Q5:Hid (∃ l2:List UInt8,l2++(fs.drop (k+1)).flatMap Fn.bytes=R/\(fs.drop (k+1)).all Fn.ok=true/\Wr wb.heap.size wp w5 l2/\FW wb.heap.size wp w w5):=⟨_,Q.o.1,Q.o.2,W5,FW.trans HF2.o f5⟩
     clear z0 z1 z2 z3 Q W5 f5
     go_wp2
     go_roundg (fs.length - (k+1))
     case measure=>omega
     case rel=>exact⟨k+1,by first | rfl | (congr 1;omega) | go_num,by omega,rfl,Q5⟩
    ·have hk':¬ (k:Int) < fs.length:=by omega
     rw[zbk fs k hk,List.flatMap_nil,List.append_nil] at r1
     have Q:Hid (_/\_):=⟨r1 ▸ r4,r5⟩
     clear r1 r3 r4 r5
     go_wp2
     go_end0
     exact⟨rfl,Q.o⟩
def EncOk(n:Nat):Prop:=∀ (c:Cd) (p:Option Addr) (cap:Nat) (p':Option Addr) (cap':Nat) (w:World),ShIn w->WdIn w->zX w p c.texts->zF w p' c.funs->Calls Tryz.prog n #[.agg #[.slice p c.texts.length cap,.slice p' c.funs.length cap']] w fun e w'=>e=.returned (.tuple #[.string {data:=c.enc.1.toArray},.int .i64 c.enc.2])/\Below w.heap.size w w'
theorem zw8(n:Nat)(hn:n<=4000000)(w:World):(Instr.makeSlice 62 (.int .i64 0) (.int .i64 (n:Int))).run Tryz.prog w=.ok (.slice (some ⟨w.heap.size,0,none⟩) 0 n) (w.alloc (.cells (madeCells #[.int .u8 0] n) 5)):=by
 obtain⟨i,h1,h2,h3,h4⟩:=zap zju
 have hr:=run_make (P:=Tryz.prog) w 62 5 i _ Tryz.underlying62 h1 h2 .i64 .i64 0 (n:Int) (by omega) (by omega) (by rw[h4];omega) (by omega)
 rw[h3] at hr
 have e:((n:Int)).toNat * 1=n:=by omega
 rw[e] at hr
 exact hr
theorem zqj(z:Value)(n:Nat):(madeCells #[z] n).size=n * 1:=by
 unfold madeCells
 simp
theorem zrd:EncOk 10:=by
 intro c p cap p' cap' w hS hW hT hF
 obtain⟨ts,fs⟩:=c
 have hk1:Below w.heap.size w (w.alloc (.cells #[.slice p ts.length cap,.slice p' fs.length cap'] 25)):=(Below.refl _ _).alloc (Nat.le_refl _) _
 have hx0:CBox (w.alloc (.cells #[.slice p ts.length cap,.slice p' fs.length cap'] 25)) w.heap.size p ts.length cap p' fs.length cap':=(MapKept.heap_alloc w _).1
 have Hk1:=zh hk1
 have Hx0:=zh hx0
 have HS:Hid _:=hS.below hk1
 have HW:Hid _:=hW.below hk1
 have HT:Hid _:=hT.below hk1
 have HF:Hid _:=hF.below hk1
 obtain⟨R,hR⟩:∃ R,R=Cd.enc ⟨ts,fs⟩:=⟨_,rfl⟩
 rw[<-hR]
 unfold Cd.enc at hR
 have HR:=zh hR
 clear hk1 hx0 hS hW hT hF hR
 show Calls Tryz.prog 10 #[.agg #[.slice p ts.length cap,.slice p' fs.length cap']] w _
 go_enter Tryz.func10,Tryz.ntmps10
 go_upto_region 1 with fail
 generalize w.alloc _=w0 at *
 obtain⟨x0,x1,x2⟩:=CBox.cells Hx0.o
 have Hc:Hid _:=zit ts fs p cap p' cap' w0 HS.o HT.o HF.o
 go_wp2_with fail
 refine cM Hc.o ?_
 rintro e1 w1 ⟨rfl,hb1⟩
 have Hb1:=zh hb1
 clear x0 x1 x2 hb1
 obtain⟨x0,x1,x2⟩:=(CBox.below Hx0.o Hb1.o).cells
 cases hok:Cd.ok ⟨ts,fs⟩
 ·have hR:R=([],17):=by rw[HR.o,hok];rfl
  subst hR
  clear hok
  go_wp2
  exact bodyPost_ret (v:=.tuple #[.string {data:=#[]},.int .i64 17]) (by simp[results,Tryz.results10,go_sem]) rfl ⟨rfl,Below.trans Hk1.o (Hb1.o.mono (Below.size Hk1.o))⟩
 have Hc:Hid _:=znz ts fs p cap p' cap' w1 (ShIn.below HS.o Hb1.o) (WdIn.below HW.o Hb1.o) (zX.below HT.o Hb1.o) (zF.below HF.o Hb1.o) hok
 have Hok:=zh hok
 rw[hok,if_pos rfl] at HR
 clear hok
 go_wp2_with fail
 refine cM Hc.o ?_
 rintro e1 w2 ⟨rfl,hb2⟩
 have Hb2:Hid _:=Below.then Hb1.o hb2 (Nat.le_refl _)
 clear x0 x1 x2 hb2
 obtain⟨x0,x1,x2⟩:=(CBox.below Hx0.o Hb2.o).cells
 obtain⟨N,hN⟩:∃ N,N=(Cd.bytes ⟨ts,fs⟩).length:=⟨_,rfl⟩
 rw[<-hN] at HR ⊢
 have HN:=zh hN
 clear hN
 by_cases h4:N > 4000000
 ·have hR:R=([],1):=by rw[HR.o,if_pos h4]
  subst hR
  have h4':(4000000:Int) < N:=by omega
  go_wp2
  exact bodyPost_ret (v:=.tuple #[.string {data:=#[]},.int .i64 1]) (by simp[results,Tryz.results10,go_sem]) rfl ⟨rfl,Below.trans Hk1.o (Hb2.o.mono (Below.size Hk1.o))⟩
 have hR:R=(Cd.bytes ⟨ts,fs⟩,0):=by rw[HR.o,if_neg h4]
 subst hR
 have h4':¬ (4000000:Int) < N:=by omega
 have hmk:=zw8 N (by omega) w2
 have hWr:Wr w2.heap.size (w2.heap.size+1) ((w2.alloc (.cells (madeCells #[.int .u8 0] N) 5)).alloc (.cells #[.slice (some ⟨w2.heap.size,0,none⟩) 0 N] 74)) []:=by
  have h1:Wr w2.heap.size (w2.heap.size+1) ((w2.alloc (.cells (madeCells #[.int .u8 0] N) 5)).alloc (.cells #[.slice (some ⟨w2.heap.size,0,none⟩) 0 N] 74)) []:=by
   refine⟨⟨.slice (some ⟨w2.heap.size,0,none⟩) 0 N,?_,?_⟩,by simp;omega⟩
   ·have:=(MapKept.heap_alloc (w2.alloc (.cells (madeCells #[.int .u8 0] N) 5)) (.cells #[.slice (some ⟨w2.heap.size,0,none⟩) 0 N] 74)).1
    simpa using this
   ·refine zd7 (w:=w2.alloc (.cells (madeCells #[.int .u8 0] N) 5)) (World.ownsRow_made w2 _ N (Nat.le_refl _) (by unfold maxLen;omega) (zqj _ _)) ?_
    intro g cs hg hc
    exact Below.heap_alloc _ _ _ (sz hc)
  exact h1
 have hbe:Below w2.heap.size w2 ((w2.alloc (.cells (madeCells #[.int .u8 0] N) 5)).alloc (.cells #[.slice (some ⟨w2.heap.size,0,none⟩) 0 N] 74)):=((Below.refl _ _).alloc (Nat.le_refl _) _).alloc (by simp) _
 have hsz:w2.heap.size+1 < ((w2.alloc (.cells (madeCells #[.int .u8 0] N) 5)).alloc (.cells #[.slice (some ⟨w2.heap.size,0,none⟩) 0 N] 74)).heap.size:=by simp
 have Hc:Hid _:=zow w2 (w2.heap.size+1) _ ts fs p cap p' cap' Hok.o (ShIn.below HS.o Hb2.o) (zX.below HT.o Hb2.o) (zF.below HF.o Hb2.o) hbe hWr (by omega) hsz (by rw[<-HN.o];omega)
 have Hbe:=zh hbe
 clear hWr hbe hsz
 go_upto_region 7 with fail
 clear hmk x0 x1 x2
 generalize (w2.alloc _).alloc _=w3 at *
 obtain⟨x0,x1,x2⟩:=(CBox.below (CBox.below Hx0.o Hb2.o) Hbe.o).cells
 go_wp2_with fail
 refine cM Hc.o ?_
 rintro e1 w4 ⟨rfl,⟨⟨v,h1,h2⟩,_⟩,f4⟩
 have Hb4:Hid _:=Below.trans Hk1.o ((Below.trans Hb2.o ((FW.onto f4 Hbe.o).mono (Below.size Hb2.o))).mono (Below.size Hk1.o))
 have c0:w4.cell? ⟨w2.heap.size+1,0,none⟩=some v:=by simp[World.cell?,h1]
 have hcv:=zgo h2
 clear h1 h2 f4 x0 x1 x2
 go_wp2
 exact bodyPost_ret (v:=.tuple #[.string {data:=(Cd.bytes ⟨ts,fs⟩).toArray},.int .i64 0]) (by simp[results,Tryz.results10,go_sem]) rfl ⟨rfl,Hb4.o⟩
end Go.Proofs.YtkcmachfagcnaaaGreatDoor.C12
namespace Go.Proofs.YtkcmachfagcnaaaGreatDoor.C12
def isAt(L:List Sn)(j:Nat):Bool:=((L[j]?).getD default).is
theorem zfp{L:List Sn}{k:Nat}{s:Sn}{i:Nat}(hs:s.vals<=5000)(hk:isAt L k=false->i < k):zQ L k s=toldP L k s i:=by
 unfold zQ toldP
 rw[if_neg (by omega)]
 by_cases h:((L[k]?).getD default).is=true
 ·rw[if_pos h,if_pos h]
 ·rw[if_neg h,if_neg h,decide_eq_true]
  have:=hk (by unfold isAt;simpa using h)
  omega
theorem zkt{L:List Sn}{k:Nat}{s:Sn}{i:Int}(hs:s.is=true){j:Nat}(h:isAt L j=true):isAt (toldP L k s i).2 j=true:=by
 unfold toldP
 split
 ·exact h
 ·unfold isAt at *
  by_cases hjk:k=j
  ·subst hjk
   by_cases hl:k < L.length
   ·simp[hl,hs]
   ·rw[List.set_eq_of_length_le (by omega)]
    exact h
  ·simp only[List.getElem?_set,if_neg hjk]
   exact h
theorem zir{fs:List Fn}{x:In}{i:Nat}{L:List Sn}{j:Nat}(h:isAt L j=true):isAt (flowJ fs x i L).2 j=true:=by
 unfold flowJ
 split
 ·split
  ·exact zkt rfl h
  ·exact h
 ·exact h
theorem zq5{fs:List Fn}{x:In}{i:Nat}{L:List Sn}{j:Nat}(h:isAt L j=true):isAt (flowP fs x i L).2 j=true:=by
 unfold flowP
 split
 ·split
  ·exact zir h
  ·exact zkt rfl (zir h)
 ·exact zir h
theorem zq6{fs:List Fn}{x:In}{i:Nat}{L:List Sn}(h:(flowP fs x i L).1=true):isAt L i=true:=by
 unfold flowP at h
 split at h
 ·rename_i h1
  unfold flowJ at h1
  split at h1
  ·rename_i h2
   unfold mayP at h2
   simp only[Bool.and_eq_true] at h2
   exact h2.1
  ·cases h1
 ·cases h
theorem zo6(fs:List Fn)(x:In)(i:Nat)(L:List Sn)(hL:LOk L i)(hi:i < L.length)(ht:0<=zT fs x)(hinv:∀ j,j < i->isAt L j=true) :
  (stepP fs x i L).1=(flowP fs x i L).1/\((flowP fs x i L).1=true->(stepP fs x i L).2=(flowP fs x i L).2):=by
 have hg:(L[i]?).getD default=L[i]'hi:=by simp[hi]
 obtain⟨q1,q2,q3,q4⟩:=hL _ (List.getElem_mem hi)
 have hp:=zfq x
 by_cases his:isAt L i=true
 ·have his2:(L[i]'hi).is=true:=by
   unfold isAt at his
   rw[hg] at his
   exact his
  have hall:∀ j,isAt L j=false->i < j:=fun j hj=>by
   by_cases h1:j < i
   ·rw[hinv j h1] at hj;cases hj
   ·by_cases h2:j=i
    ·subst h2;rw[his] at hj;cases hj
    ·omega
  have hall2:∀ (y:Sn) (m:Int) (k:Nat),y.is=true->∀ j,isAt (toldP L k y m).2 j=false->i < j:=fun y m k hy j hj=>by
   refine hall j ?_
   cases h:isAt L j
   ·rfl
   ·rw[zkt hy h] at hj;cases hj
  have hm:mayP fs x ((L[i]?).getD default)=(decide (zT fs x<=(L[i]'hi).vals) && ((if x.op=17\/x.op=16 then decide ((L[i]'hi).vals=zT fs x) && decide ((L[i]'hi).tA=0) else true) && (decide (0<=(nextP fs x (L[i]'hi)).tA) && (decide ((nextP fs x (L[i]'hi)).vals<=5000) && decide ((jumpP fs x (L[i]'hi)).vals<=5000))))):=by
   unfold mayP
   rw[hg,his2]
   rfl
  have hst:stepP fs x i L=if zT fs x<=(L[i]'hi).vals then stepJ x i L ⟨true,(L[i]'hi).vals+(putsP x - zT fs x),(L[i]'hi).tA⟩ else(false,L):=by
   unfold stepP
   rw[hg,his2]
   simp
  unfold flowP flowJ
  rw[hm,hst,hg]
  clear hm hst
  generalize hs:(L[i]'hi)=s at *
  obtain⟨si,sv,st⟩:=s
  simp only at his2 q1 q2 q3 q4
  subst his2
  by_cases htk:zT fs x<=sv
  ·rw[if_pos htk]
   have e1:sv+(putsP x - zT fs x)=sv - zT fs x+putsP x:=by omega
   simp only[decide_eq_true htk,Bool.true_and]
   rw[e1]
   obtain⟨nv,hnv⟩:∃ nv,nv=sv - zT fs x+putsP x:=⟨_,rfl⟩
   have hnx:(nextP fs x ⟨true,sv,st⟩).vals=nv:=hnv.symm
   have hnx2:nextP fs x ⟨true,sv,st⟩=⟨true,nv,(nextP fs x ⟨true,sv,st⟩).tA⟩:=by rw[<-hnx];rfl
   have hjx2:jumpP fs x ⟨true,sv,st⟩=⟨true,nv+(if x.op=20 then 1 else 0),st⟩:=by rw[hnv];rfl
   have hnt:(nextP fs x ⟨true,sv,st⟩).tA=if x.op=20 then st+1 else if x.op=21 then st - 1 else st:=rfl
   rw[hnx,hnx2,hjx2,hnt,<-hnv]
   clear hnx hnx2 hjx2 hnt
   have hp0:(x.op=17\/x.op=16\/x.op=22\/x.op=18\/x.op=19\/x.op=20\/x.op=21)->nv<=5000:=fun h=>by
    have:putsP x=0:=by unfold putsP;rw[if_pos (by omega)]
    omega
   have hv0:(x.op=17\/x.op=16)->(nv=0↔sv=zT fs x):=fun h=>by
    have:putsP x=0:=by unfold putsP;rw[if_pos (by omega)]
    omega
   clear e1 hnv
   unfold stepJ
   generalize zT fs x=tk at *
   generalize x.op=op at *
   generalize x.a.toNat=ja at *
   have hr1:∀ s:Sn,s.vals<=5000->zQ L ja s=toldP L ja s i:=fun s hs=>zfp hs (hall ja)
   have hr2:∀ s:Sn,s.vals<=5000->zQ L (i+1) s=toldP L (i+1) s i:=fun s hs=>zfp hs (hall (i+1))
   have hr3:∀ (y s:Sn),y.is=true->s.vals<=5000->zQ (toldP L ja y i).2 (i+1) s=toldP (toldP L ja y i).2 (i+1) s i:=fun y s hy hs=>zfp hs (hall2 y i ja hy (i+1))
   have hbig:∀ (M:List Sn) (k:Nat) (s:Sn),5000 < s.vals->zQ M k s=(false,M):=fun M k s hs=>by unfold zQ;rw[if_pos hs]
   clear hall hall2 hg hL hinv
   by_cases o17:op=17
   ·subst o17
    have h5:=hp0 (by simp)
    have h6:=hv0 (by simp)
    simp[h5,q3]
    by_cases z1:sv=tk <;> by_cases z2:st=0 <;> simp[z1,z2,h6]
   by_cases o16:op=16
   ·subst o16
    have h5:=hp0 (by simp)
    have h6:=hv0 (by simp)
    simp[h5,q3]
    by_cases z1:sv=tk <;> by_cases z2:st=0 <;> simp[z1,z2,h6]
   by_cases o22:op=22
   ·subst o22
    have h5:=hp0 (by simp)
    simp[h5,q3]
   by_cases o18:op=18
   ·subst o18
    have h5:=hp0 (by simp)
    simp[h5,q3,hr1]
    generalize toldP L ja ⟨true,nv,st⟩ i=r
    obtain⟨c,M⟩:=r
    cases c <;> simp
   by_cases o19:op=19
   ·subst o19
    have h5:=hp0 (by simp)
    simp[h5,q3,hr1,hr3]
   by_cases o20:op=20
   ·subst o20
    have h5:=hp0 (by simp)
    by_cases h51:nv+1<=5000
    ·have h7:0<=st+1:=by omega
     simp[h5,h7,h51,hr1,hr3]
    ·have h52:5000 < nv+1:=by omega
     simp[h51,hbig,h52]
   by_cases o21:op=21
   ·subst o21
    have h5:=hp0 (by simp)
    by_cases h8:1<=st
    ·simp[h5,h8,hr2]
    ·simp[h8]
   ·by_cases h51:nv<=5000
    ·simp[o17,o16,o22,o18,o19,o20,o21,h51,q3,hr2]
    ·have h52:5000 < nv:=by omega
     simp[o17,o16,o22,o18,o19,o20,o21,h51,hbig,h52]
  ·rw[if_neg htk]
   simp[decide_eq_false htk]
 ·have his2:¬ (L[i]'hi).is=true:=by
   unfold isAt at his
   rw[hg] at his
   exact his
  unfold stepP flowP flowJ mayP
  rw[hg,if_neg (fun h=>his2 h.1)]
  simp[his2]
end Go.Proofs.YtkcmachfagcnaaaGreatDoor.C12
