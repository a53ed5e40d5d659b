/- Part of Greater. -/
import Derived.Test.YtkcmachfagcnaaaGreatDoorB06
set_option maxHeartbeats 8000000
set_option maxRecDepth 100000
namespace Go.Proofs.YtkcmachfagcnaaaGreatDoor.C12
open Go.RowKit Go.Deep
inductive DecPost(w:World)(S:ByteArray)(e:Ending)(w':World):Prop
 | mk (p:Option Addr) (cap:Nat) (p':Option Addr) (cap':Nat) (he:e=.returned (.tuple #[.agg #[.slice p (decR S).1.texts.length cap,.slice p' (decR S).1.funs.length cap'],.agg #[.int .i64 (decR S).2.1,.int .i64 (decR S).2.2]])) (hT:zX w' p (decR S).1.texts) (hF:zF w' p' (decR S).1.funs) (hb:Below w.heap.size w w'):DecPost w S e w'
theorem zh1(w:World)(c0 c1 c2:Value)(t:TypeId):∀ j u,[c0,c1,c2][j]? = some u->(w.alloc (.cells #[c0,c1,c2] t)).cell? ((⟨w.heap.size,0,none⟩:Addr).add j)=some u:=by
 intro j u hj
 have hlt:j < 3:=by
  have:=(List.getElem?_eq_some_iff.1 hj).1
  simpa using this
 match j,hlt,hj with
 | 0,_,hj=>simp at hj;subst hj;simp[Addr.add]
 | 1,_,hj=>simp at hj;subst hj;simp[Addr.add]
 | 2,_,hj=>simp at hj;subst hj;simp[Addr.add]
theorem one3(a b c:Int):∀ u∈[Value.int .i64 a,.int .i64 b,.int .i64 c],u.oneCell'=true:=by
 intro u hu
 simp only[List.mem_cons,List.not_mem_nil,or_false] at hu
 rcases hu with rfl | rfl | rfl <;> rfl
theorem one3s(a b:Int)(p:Option Addr)(n cap:Nat):∀ u∈[Value.int .i64 a,.int .i64 b,.slice p n cap],u.oneCell'=true:=by
 intro u hu
 simp only[List.mem_cons,List.not_mem_nil,or_false] at hu
 rcases hu with rfl | rfl | rfl <;> rfl
theorem zqx:(Tryz.prog.info? 44).map (fun i=>(i.zero,i.size,i.bytes))=some (some (.agg #[.int .i64 0,.int .i64 0,.int .i64 0]),3,24):=by kernel_rfl
theorem slice43:Tryz.prog.underlying 45=some (.slice 44):=by kernel_rfl
theorem zqw:(Tryz.prog.info? 47).map (fun i=>(i.zero,i.size,i.bytes))=some (some (.agg #[.int .i64 0,.int .i64 0,.slice none 0 0]),3,40):=by kernel_rfl
theorem slice23:Tryz.prog.underlying 23=some (.slice 47):=by kernel_rfl
theorem zu2:(Tryz.prog.info? 9).map (fun i=>(i.zero,i.size,i.bytes))=some (some (.string {data:=#[]}),1,16):=by kernel_rfl
theorem zvi:Tryz.prog.underlying 22=some (.slice 9):=by kernel_rfl
theorem zbm{S:ByteArray}{n pos:Nat}(h:(num0 S n pos).2.kind=0):(num0 S n pos).2=⟨pos+n,0,0⟩/\pos+n<=S.size:=by
 by_cases hgt:(S.size:Int) - pos < n
 ·rw[zbp hgt] at h
  cases h
 ·rw[zdt hgt]
  exact⟨rfl,by omega⟩
theorem zfu(S:ByteArray)(pos:Nat):0<=(num0 S 2 pos).1/\(num0 S 2 pos).1<=65535:=by
 by_cases hgt:(S.size:Int) - pos < (2:Nat)
 ·rw[zbp hgt]
  simp
 ·rw[zdt hgt]
  have:=zch S pos 2
  simp only
  omega
theorem zie{S:ByteArray}{n pos:Nat}(h:¬ (num0 S n pos).2.kind=0):(num0 S n pos).1=0:=by
 by_cases hgt:(S.size:Int) - pos < n
 ·rw[zbp hgt]
 ·rw[zdt hgt] at h
  exact absurd rfl h
theorem zup{S:ByteArray}{pos:Nat}(h:(argR S 105 ⟨pos,0,0⟩).2.kind=0):(argR S 105 ⟨pos,0,0⟩).2=⟨pos+4,0,0⟩/\pos+4<=S.size:=by
 unfold argR at h ⊢
 simp only[if_true] at h ⊢
 have e:Rs.num S 4 ⟨pos,0,0⟩=num0 S 4 pos:=rfl
 rw[e] at h ⊢
 by_cases h1:1000000000 < signed (num0 S 4 pos).1\/signed (num0 S 4 pos).1 < -1000000000
 ·rw[if_pos h1] at h ⊢
  unfold Rs.fail at h ⊢
  by_cases hz:(num0 S 4 pos).2.kind=0
  ·rw[if_pos hz] at h
   cases h
  ·rw[if_neg hz] at h
   exact absurd h hz
 ·rw[if_neg h1] at h ⊢
  exact zbm h
theorem zqt{S:ByteArray}{pos:Nat}(h:(ins0 S pos).2.kind=0):∃ P,(ins0 S pos).2=⟨P,0,0⟩/\P<=S.size:=by
 by_cases hgt:(S.size:Int) - pos < (1:Nat)
 ·rw[zht hgt] at h
  cases h
 ·cases hop:isOp (numAt S pos 1)
  ·rw[zqr hgt hop] at h
   cases h
  ·rw[zqs hgt hop] at h ⊢
   obtain⟨k,hk,hk2⟩:=zc8 hop
   rw[hk] at h ⊢
   rcases zdg k hk2 with⟨h1,h2⟩ | ⟨h1,h2⟩ | ⟨h1,h2⟩ | ⟨h1,h2⟩
   ·rw[h2]
    exact⟨pos+1,rfl,by omega⟩
   ·rw[h2,zgd] at h ⊢
    exact⟨_,zup h⟩
   ·rw[h2,zgd,zuo] at h ⊢
    exact⟨_,zbm h⟩
   ·rw[h2,zmh] at h ⊢
    by_cases hz:(num0 S 2 (pos+1)).2.kind=0
    ·rw[if_pos hz] at h ⊢
     exact⟨_,zbm h⟩
    ·rw[if_neg hz] at h
     exact absurd h hz
theorem zqn(S:ByteArray):∀ (n:Nat) (s:List In×Rs),¬ s.2.kind=0->insN S n s=s
 | 0,_,_=>rfl
 | n+1,s,h=>by rw[insN,if_neg h]
theorem zuy(n:Nat)(hn:n<=4000000)(w:World):(Instr.makeSlice 45 (.int .i64 0) (.int .i64 (n:Int))).run Tryz.prog w=.ok (.slice (some ⟨w.heap.size,0,none⟩) 0 n) (w.alloc (.cells (madeCells #[.int .i64 0,.int .i64 0,.int .i64 0] (n * 3)) 44)):=by
 obtain⟨i,h1,h2,h3,h4⟩:=zap zqx
 have hr:=run_make (P:=Tryz.prog) w 45 44 i _ Tryz.underlying45 h1 h2 .i64 .i64 0 (n:Int) (by omega) (by omega) (by rw[h4];omega) (by omega)
 rw[h3] at hr
 have e:((n:Int)).toNat=n:=by omega
 rw[e] at hr
 exact hr
theorem zw9(w:World)(n:Nat)(hn:n<=4000000)(base:Nat)(hb:base<=w.heap.size):(w.alloc (.cells (madeCells #[.int .i64 0,.int .i64 0,.int .i64 0] (n * 3)) 44)).ownsRow base 44 3 (.slice (some ⟨w.heap.size,0,none⟩) 0 n) 0 []:=
 World.ownsRow_made w _ n hb (by unfold maxLen;omega) (by simp[madeCells])
def insL(S:ByteArray)(pos:Nat):List In×Rs:=insN S (num0 S 2 pos).1.toNat ([],(num0 S 2 pos).2)
structure InsC(w:World)(p:Option Addr)(l:List In):Prop where
 ins:InsIn w p l
 obj:∀ a,p=some a->∃ cur,w.heap[a.block]? = some (.cells cur 44)
theorem InsC.kp{X:List Nat}{w w':World}{p:Option Addr}{l:List In}(h:InsC w p l)(hk:Kp X w w')(hX:∀ b,p=some b->b.block∉X):InsC w' p l:=⟨h.ins.kp hk hX,fun a e=>by
 obtain⟨cur,hc⟩:=h.obj a e
 exact⟨cur,(hk.block a.block (sz hc) (hX a e)).trans hc⟩⟩
theorem ztl{w:World}{base:Nat}{v:Value}{l:List In}(h:w.ownsRow base 44 3 v l.length (inRow l))(hl:l.length<=65536):∃ q cap,v=.slice q l.length cap/\InsC w q l/\∀ b,q=some b->v.ownBlock=some b.block/\base<=b.block/\b.block < w.heap.size:=by
 obtain⟨q,cap,hv,hi,hb⟩:=zqq h hl
 refine⟨q,cap,hv,⟨hi,fun a e=>?_⟩,hb⟩
 have ho:=(hb a e).1
 rcases h.2 with⟨rfl,h0⟩ | ⟨g,cap,cur,rfl,h1,h2,h3,h4,h5,h6⟩
 ·cases ho
 ·have:g=a.block:=by simpa [Value.ownBlock] using ho
  rw[<-this]
  exact⟨cur,h2⟩
inductive InsPost(w:World)(rp:Nat)(S:ByteArray)(l:List In)(r:Rs)(e:Ending)(w':World):Prop
 | mk (q:Option Addr) (m cap:Nat) (he:e=.returned (.tuple #[.slice q m cap,evR r.kind r.fat])) (hr:r.kind=0->m=l.length/\InsC w' q l/\(∀ b,q=some b->w.heap.size<=b.block/\b.block < w'.heap.size)/\PBox w' rp S r.pos/\r.fat=0/\r.pos<=S.size/\l.length<=65535) (hk:Kp [rp] w w'):InsPost w rp S l r e w'
theorem zqp(w:World)(rp:Nat)(S:ByteArray)(pos:Nat)(h:PBox w rp S pos)(hSh:ShIn w)(hrp:3≠rp)(hS:S.size<=4000000)(hp:pos<=4000000):Calls Tryz.prog 69 #[.pointer (some ⟨rp,0,none⟩),.func (.func 70) #[] #[]] w fun e w'=>InsPost w rp S (insL S pos).1 (insL S pos).2 e w':=by
 have Hc:Hid _:=zc6 w rp S pos h hS hp
 have hrg:=zfu S pos
 have Hgood:Hid _:=zbm (S:=S) (n:=2) (pos:=pos)
 have Hbad:Hid _:=zie (S:=S) (n:=2) (pos:=pos)
 have HSh:Hid (∀ wx,Kp [rp] w wx->ShIn wx):=fun wx hx=>hSh.of_block (hx.block 3 hSh.lt (by simpa using hrp))
 have hrl:=h.lt
 obtain⟨R,hR⟩:∃ R,R=insL S pos:=⟨_,rfl⟩
 rw[<-hR]
 unfold insL at hR
 have HR:=zh hR
 clear hR h hSh
 generalize num0 S 2 pos=A at *
 obtain⟨n,r1⟩:=A
 simp only at Hc hrg Hgood Hbad HR
 obtain⟨k,rfl⟩:∃ k:Nat,n=(k:Int):=⟨n.toNat,by omega⟩
 rw[Int.toNat_natCast] at HR
 have hk16:k<=65535:=by omega
 go_enter Tryz.func69,Tryz.ntmps69
 go_wp2_with fail
 refine cM Hc.o ?_
 rintro e1 w1 ⟨rfl,p1,k1⟩
 have Hp1:Hid (_/\_):=⟨p1,k1⟩
 clear p1 k1
 by_cases hz:¬ r1.kind=0
 ·have hk0:(k:Int)=0:=Hbad.o hz
  obtain rfl:k=0:=by omega
  have hR2:R=([],r1):=HR.o
  subst hR2
  have Hev:Hid (evR r1.kind r1.fat=.iface 84 (.agg #[.int .i64 r1.kind,.int .i64 r1.fat])):=zcc hz
  have Hz:=zh hz
  rw[Hev.o]
  clear hz hk0
  go_wp2
  exact bodyPost_ret (v:=.tuple #[.slice none 0 0,.iface 84 (.agg #[.int .i64 r1.kind,.int .i64 r1.fat])]) (by simp[results,Tryz.results69,go_sem]) rfl ⟨none,0,0,by rw[Hev.o],fun h=>absurd h Hz.o,Hp1.o.2⟩
 replace hz:r1.kind=0:=Decidable.not_not.1 hz
 obtain⟨e1,hle⟩:=Hgood.o hz
 subst e1
 clear hz
 rw[zcb rfl]
 obtain⟨m,hm⟩:∃ m:Nat,S.size=pos+2+m:=⟨S.size - (pos+2),by omega⟩
 have Hl:Hid _:=zem w1 rp S (pos+2) Hp1.o.1 (by omega) (by omega)
 rw[show(S.size:Int) - ((pos+2:Nat):Int)=(m:Int) by omega] at Hl
 have hm4:m<=4000000:=by omega
 clear hm
 go_upto_region 4 with fail
 go_cut [8] from 19 to 23 (fun v wx=>Hid (wx.ownsRow w.heap.size 44 3 v 0 (inRow [])/\PBox wx rp S ((pos+2:Nat):Int)/\Kp [rp] w wx))
 case first=>
  go_wp2_with fail
  refine cM Hl.o ?_
  rintro e2 w2 ⟨rfl,k2⟩
  have Hp2:Hid (_/\_):=⟨PBox.kp Hp1.o.1 k2 (by simp),Kp.trans Hp1.o.2 (Kp.mono k2 (by simp))⟩
  clear k2
  have Hmk:Hid (∀ n:Nat,n<=4000000->(w2.alloc (.cells (madeCells #[.int .i64 0,.int .i64 0,.int .i64 0] (n * 3)) 44)).ownsRow w.heap.size 44 3 (.slice (some ⟨w2.heap.size,0,none⟩) 0 n) 0 (inRow [])/\PBox (w2.alloc (.cells (madeCells #[.int .i64 0,.int .i64 0,.int .i64 0] (n * 3)) 44)) rp S ((pos+2:Nat):Int)/\Kp [rp] w (w2.alloc (.cells (madeCells #[.int .i64 0,.int .i64 0,.int .i64 0] (n * 3)) 44))):=fun n hn=>⟨zw9 w2 n hn w.heap.size (Kp.size Hp2.o.2),PBox.kp Hp2.o.1 kA (by simp),Kp.trans Hp2.o.2 (Kp.alloc _ _ _)⟩
  by_cases hkm:(k:Int)<=m
  ·have hmk:=zuy k (by omega) w2
   go_wp2
   go_meet
   exact Hmk.o k (by omega)
  ·have hmk:=zuy m (by omega) w2
   go_wp2
   go_meet
   exact Hmk.o m (by omega)
 case rest=>
  have HQ0:=hcut
  clear hcut
  rename World=>w3
  go_wp2_with fail
  go_loopg [8,25] k (fun g vv iv wr=>∃ i:Nat,iv=.int .i64 i/\i<=k/\g=k - i/\Hid (∃ (l:List In) (P:Nat),insN S (k - i) (l,⟨P,0,0⟩)=R/\P<=S.size/\l.length=i/\wr.ownsRow w.heap.size 44 3 vv l.length (inRow l)/\PBox wr rp S P/\Kp [rp] w wr))
  case atStart=>exact⟨0,rfl,by omega,by omega,[],pos+2,HR.o.symm,hle,rfl,HQ0.o.1,HQ0.o.2⟩
  case round=>
   obtain⟨i,rfl,hi1,rfl,HQ⟩:=hrel
   obtain⟨l,P,q1,q2,q3,q4,q5,q6⟩:=HQ.o
   by_cases hi:i < k
   ·have hi':(i:Int) < k:=by omega
    have Hc:Hid _:=ztk wr rp S P q5 (HSh.o wr q6) hrp hS (by omega)
    have Hgood:Hid _:=zqt (S:=S) (pos:=P)
    rw[show k - i=(k - (i+1))+1 by omega,insN,if_pos rfl] at q1
    have e0:insR S ⟨P,0,0⟩=ins0 S P:=rfl
    simp only[e0] at q1
    clear e0
    generalize ins0 S P=A at *
    obtain⟨x,r2⟩:=A
    simp only at Hc Hgood q1
    have Hq:Hid _:=And.intro q1 (And.intro q3 (And.intro q4 q6))
    clear q1 q2 q3 q4 q5 q6
    go_wp2_with fail
    refine cM Hc.o ?_
    rintro e4 w4 ⟨rfl,p4,k4⟩
    have hb4:w4.heap[w4.heap.size]? = none:=by simp
    have H5:Hid (PBox (w4.alloc (.cells #[.int .i64 x.op,.int .i64 x.a,.int .i64 x.b] 44)) rp S r2.pos/\Kp [rp] wr (w4.alloc (.cells #[.int .i64 x.op,.int .i64 x.a,.int .i64 x.b] 44))/\XBox (w4.alloc (.cells #[.int .i64 x.op,.int .i64 x.a,.int .i64 x.b] 44)) w4.heap.size x):=⟨p4.kp kA (by simp),k4.trans (Kp.alloc _ _ _),(MapKept.heap_alloc w4 _).1⟩
    clear p4 k4 hb4
    go_upto_region 8 with fail
    generalize w4.alloc _=w5 at *
    generalize w4.heap.size=xb at *
    obtain⟨x0,x1,x2,_⟩:=XBox.cells H5.o.2.2
    have x3:=XBox.lt H5.o.2.2
    by_cases hz:¬ r2.kind=0
    ·have hR2:(l++[x],r2)=R:=by rw[<-Hq.o.1,zqn S _ _ hz]
     subst hR2
     have Hev:Hid (evR r2.kind r2.fat=.iface 84 (.agg #[.int .i64 r2.kind,.int .i64 r2.fat])):=zcc hz
     have Hz:=zh hz
     have HK:Hid _:=Kp.trans Hq.o.2.2.2 H5.o.2.1
     rw[Hev.o]
     clear hz
     go_wp2
     exact bodyPost_ret (v:=.tuple #[.slice none 0 0,.iface 84 (.agg #[.int .i64 r2.kind,.int .i64 r2.fat])]) (by simp[results,Tryz.results69,go_sem]) rfl ⟨none,0,0,by rw[Hev.o],fun h=>absurd h Hz.o,HK.o⟩
    ·replace hz:r2.kind=0:=Decidable.not_not.1 hz
     obtain⟨P2,rfl,hP2⟩:=Hgood.o hz
     clear hz
     rw[zcb rfl]
     have hown:w5.ownsRow w.heap.size 44 3 u8 l.length (inRow l):=ownsRow.kp Hq.o.2.2.1 H5.o.2.1 (fun g hg=>by have:=(Hq.o.2.2.1.lt g hg).1;simp only[List.mem_singleton];omega)
     have hsz5:w.heap.size<=w5.heap.size:=Kp.size (Kp.trans Hq.o.2.2.2 H5.o.2.1)
     have hll:l.length<=65535:=by have:=Hq.o.2.1;omega
     obtain⟨i0,hi0,hzz0,hzz1,hzz2⟩:=zap zqx
     go_wp2_with (at_builtin;refine wpList_append_lies _ rfl _ _ 45 rfl w.heap.size 44 i0 (.agg #[.int .i64 0,.int .i64 0,.int .i64 0]) 3 24 slice43 hi0 hzz0 hzz1 hzz2 rfl (by decide) _ _ _ rfl (hown.alloc _) ⟨w5.heap.size,0,none⟩ 1 1 [.int .i64 x.op,.int .i64 x.a,.int .i64 x.b] rfl rfl (zh1 w5 _ _ _ _) (one3 x.op x.a x.b) (by decide) (by unfold maxLen;omega) (by omega) (by simp;omega) (w5.heap.size+1) (by simp) ?_)
     intro g9 cap9 w9 ho9 hg9 hat9 hlt9
     have Q:Hid (∃ (l2:List In) (P:Nat),insN S (k - (i+1)) (l2,⟨P,0,0⟩)=R/\P<=S.size/\l2.length=i+1/\w9.ownsRow w.heap.size 44 3 (.slice (some ⟨g9,0,none⟩) (l.length+1) cap9) l2.length (inRow l2)/\PBox w9 rp S P/\Kp [rp] w w9):=by
      have hk9:=zih hg9
      have hb:∀ g,u8.ownBlock=some g->w.heap.size<=g:=fun g hg=>(hown.lt g hg).1
      refine⟨l++[x],P2,Hq.o.1,hP2,by rw[lA,Hq.o.2.1];rfl,?_,?_,?_⟩
      ·rw[lA,zn4]
       exact ho9
      ·refine PBox.kp (PBox.kp H5.o.1 kA (by simp)) hk9 (fun hx=>?_)
       have:=hb rp (by simpa using hx)
       omega
      ·refine Kp.then ((Kp.trans Hq.o.2.2.2 H5.o.2.1).trans (Kp.alloc _ _ _)) hk9 (fun y hy=>Or.inr (hb y (by simpa using hy)))
     clear ho9 hg9 hat9 hlt9 hown x0 x1 x2 x3
     go_wp2
     go_roundg (k - (i+1))
     case measure=>omega
     case rel=>exact⟨i+1,by first | rfl | (congr 1;omega) | go_num,by omega,rfl,Q⟩
   ·have hi':¬ (i:Int) < k:=by omega
    rw[show k - i=0 by omega,insN] at q1
    subst q1
    obtain⟨q,cap,e1,hIn,hbl⟩:=ztl q4 (by omega)
    subst e1
    have Hq:Hid _:=And.intro hIn (And.intro hbl (And.intro q5 (And.intro q2 (And.intro q3 q6))))
    clear q2 q3 q4 q5 q6 hIn hbl
    go_wp2
    refine bodyPost_ret (v:=.tuple #[.slice q l.length cap,.nilIface]) (by simp[results,Tryz.results69,go_sem]) rfl ⟨q,l.length,cap,rfl,fun _=>⟨rfl,Hq.o.1,fun b hb=>⟨(Hq.o.2.1 b hb).2.1,(Hq.o.2.1 b hb).2.2⟩,Hq.o.2.2.1,rfl,Hq.o.2.2.2.1,by have:=Hq.o.2.2.2.2.1;show l.length<=65535;omega⟩,Hq.o.2.2.2.2.2⟩
theorem zna{S:ByteArray}{pos:Nat}(h:(text0 S pos).2.kind=0):∃ P,(text0 S pos).2=⟨P,0,0⟩/\P<=S.size:=by
 unfold text0 at h ⊢
 by_cases h1:(S.size:Int) - pos < (1:Nat)
 ·rw[if_pos h1] at h
  cases h
 ·rw[if_neg h1] at h ⊢
  by_cases h2:200 < numAt S pos 1
  ·rw[if_pos h2] at h
   cases h
  ·rw[if_neg h2] at h ⊢
   by_cases h3:(S.size:Int) - (pos+1:Nat) < (numAt S pos 1).toNat
   ·rw[if_pos h3] at h
    cases h
   ·rw[if_neg h3]
    exact⟨_,rfl,by omega⟩
theorem zkv(S:ByteArray):∀ (n:Nat) (s:List ByteArray×Rs),¬ s.2.kind=0->zc7 S n s=s
 | 0,_,_=>rfl
 | n+1,s,h=>by rw[zc7,if_neg h]
theorem zu0(n:Nat)(hn:n<=4000000)(w:World):(Instr.makeSlice 22 (.int .i64 0) (.int .i64 (n:Int))).run Tryz.prog w=.ok (.slice (some ⟨w.heap.size,0,none⟩) 0 n) (w.alloc (.cells (madeCells #[.string ⟨#[]⟩] n) 9)):=by
 obtain⟨i,h1,h2,h3,h4⟩:=zap zu2
 have hr:=run_make (P:=Tryz.prog) w 22 9 i _ Tryz.underlying22 h1 h2 .i64 .i64 0 (n:Int) (by omega) (by omega) (by rw[h4];omega) (by omega)
 rw[h3] at hr
 have e:((n:Int)).toNat * 1=n:=by omega
 rw[e] at hr
 exact hr
theorem zxb(w:World)(n:Nat)(hn:n<=4000000)(base:Nat)(hb:base<=w.heap.size):(w.alloc (.cells (madeCells #[.string ⟨#[]⟩] n) 9)).ownsRow base 9 1 (.slice (some ⟨w.heap.size,0,none⟩) 0 n) 0 []:=
 World.ownsRow_made w _ n hb (by unfold maxLen;omega) (by simp[madeCells])
def textsL(S:ByteArray)(pos:Nat):List ByteArray×Rs:=zc7 S (num0 S 2 pos).1.toNat ([],(num0 S 2 pos).2)
inductive TextsPost(w:World)(rp:Nat)(S:ByteArray)(l:List ByteArray)(r:Rs)(e:Ending)(w':World):Prop
 | mk (q:Option Addr) (m cap:Nat) (he:e=.returned (.tuple #[.slice q m cap,evR r.kind r.fat])) (hr:r.kind=0->m=l.length/\zX w' q l/\(∀ b,q=some b->w.heap.size<=b.block/\b.block < w'.heap.size)/\PBox w' rp S r.pos/\r.fat=0/\r.pos<=S.size/\l.length<=65535) (hk:Kp [rp] w w'):TextsPost w rp S l r e w'
theorem zkw(w:World)(rp:Nat)(S:ByteArray)(pos:Nat)(h:PBox w rp S pos)(hS:S.size<=4000000)(hp:pos<=4000000):Calls Tryz.prog 34 #[.pointer (some ⟨rp,0,none⟩),.func (.func 35) #[] #[]] w fun e w'=>TextsPost w rp S (textsL S pos).1 (textsL S pos).2 e w':=by
 have Hc:Hid _:=zc6 w rp S pos h hS hp
 have hrg:=zfu S pos
 have Hgood:Hid _:=zbm (S:=S) (n:=2) (pos:=pos)
 have Hbad:Hid _:=zie (S:=S) (n:=2) (pos:=pos)
 have hrl:=h.lt
 obtain⟨R,hR⟩:∃ R,R=textsL S pos:=⟨_,rfl⟩
 rw[<-hR]
 unfold textsL at hR
 have HR:=zh hR
 clear hR h
 generalize num0 S 2 pos=A at *
 obtain⟨n,r1⟩:=A
 simp only at Hc hrg Hgood Hbad HR
 obtain⟨k,rfl⟩:∃ k:Nat,n=(k:Int):=⟨n.toNat,by omega⟩
 rw[Int.toNat_natCast] at HR
 have hk16:k<=65535:=by omega
 go_enter Tryz.func34,Tryz.ntmps34
 go_wp2_with fail
 refine cM Hc.o ?_
 rintro e1 w1 ⟨rfl,p1,k1⟩
 have Hp1:Hid (_/\_):=⟨p1,k1⟩
 clear p1 k1
 by_cases hz:¬ r1.kind=0
 ·have hk0:(k:Int)=0:=Hbad.o hz
  obtain rfl:k=0:=by omega
  have hR2:R=([],r1):=HR.o
  subst hR2
  have Hev:Hid (evR r1.kind r1.fat=.iface 84 (.agg #[.int .i64 r1.kind,.int .i64 r1.fat])):=zcc hz
  have Hz:=zh hz
  rw[Hev.o]
  clear hz hk0
  go_wp2
  exact bodyPost_ret (v:=.tuple #[.slice none 0 0,.iface 84 (.agg #[.int .i64 r1.kind,.int .i64 r1.fat])]) (by simp[results,Tryz.results34,go_sem]) rfl ⟨none,0,0,by rw[Hev.o],fun h=>absurd h Hz.o,Hp1.o.2⟩
 replace hz:r1.kind=0:=Decidable.not_not.1 hz
 obtain⟨e1,hle⟩:=Hgood.o hz
 subst e1
 clear hz
 rw[zcb rfl]
 obtain⟨m,hm⟩:∃ m:Nat,S.size=pos+2+m:=⟨S.size - (pos+2),by omega⟩
 have Hl:Hid _:=zem w1 rp S (pos+2) Hp1.o.1 (by omega) (by omega)
 rw[show(S.size:Int) - ((pos+2:Nat):Int)=(m:Int) by omega] at Hl
 have hm4:m<=4000000:=by omega
 clear hm
 go_upto_region 4 with fail
 go_cut [8] from 19 to 23 (fun v wx=>Hid (wx.ownsRow w.heap.size 9 1 v 0 ([].map Value.string)/\PBox wx rp S ((pos+2:Nat):Int)/\Kp [rp] w wx))
 case first=>
  go_wp2_with fail
  refine cM Hl.o ?_
  rintro e2 w2 ⟨rfl,k2⟩
  have Hp2:Hid (_/\_):=⟨PBox.kp Hp1.o.1 k2 (by simp),Kp.trans Hp1.o.2 (Kp.mono k2 (by simp))⟩
  clear k2
  have Hmk:Hid (∀ n:Nat,n<=4000000->(w2.alloc (.cells (madeCells #[.string ⟨#[]⟩] n) 9)).ownsRow w.heap.size 9 1 (.slice (some ⟨w2.heap.size,0,none⟩) 0 n) 0 ([].map Value.string)/\PBox (w2.alloc (.cells (madeCells #[.string ⟨#[]⟩] n) 9)) rp S ((pos+2:Nat):Int)/\Kp [rp] w (w2.alloc (.cells (madeCells #[.string ⟨#[]⟩] n) 9))):=fun n hn=>⟨zxb w2 n hn w.heap.size (Kp.size Hp2.o.2),PBox.kp Hp2.o.1 kA (by simp),Kp.trans Hp2.o.2 (Kp.alloc _ _ _)⟩
  by_cases hkm:(k:Int)<=m
  ·have hmk:=zu0 k (by omega) w2
   go_wp2
   go_meet
   exact Hmk.o k (by omega)
  ·have hmk:=zu0 m (by omega) w2
   go_wp2
   go_meet
   exact Hmk.o m (by omega)
 case rest=>
  have HQ0:=hcut
  clear hcut
  rename World=>w3
  go_wp2_with fail
  go_loopg [8,25] k (fun g vv iv wr=>∃ i:Nat,iv=.int .i64 i/\i<=k/\g=k - i/\Hid (∃ (l:List ByteArray) (P:Nat),zc7 S (k - i) (l,⟨P,0,0⟩)=R/\P<=S.size/\l.length=i/\wr.ownsRow w.heap.size 9 1 vv l.length (l.map Value.string)/\PBox wr rp S P/\Kp [rp] w wr))
  case atStart=>exact⟨0,rfl,by omega,by omega,[],pos+2,HR.o.symm,hle,rfl,HQ0.o.1,HQ0.o.2⟩
  case round=>
   obtain⟨i,rfl,hi1,rfl,HQ⟩:=hrel
   obtain⟨l,P,q1,q2,q3,q4,q5,q6⟩:=HQ.o
   by_cases hi:i < k
   ·have hi':(i:Int) < k:=by omega
    have Hc:Hid _:=zo2 wr rp S P q5 hS (by omega)
    have Hgood:Hid _:=zna (S:=S) (pos:=P)
    rw[show k - i=(k - (i+1))+1 by omega,zc7,if_pos rfl,zsf] at q1
    generalize text0 S P=A at *
    obtain⟨x,r2⟩:=A
    simp only at Hc Hgood q1
    have Hq:Hid _:=And.intro q1 (And.intro q3 (And.intro q4 q6))
    clear q1 q2 q3 q4 q5 q6
    go_wp2_with fail
    refine cM Hc.o ?_
    rintro e4 w5 ⟨rfl,p4,k4⟩
    have H5:Hid (_/\_):=⟨p4,k4⟩
    clear p4 k4
    go_upto_region 8 with fail
    by_cases hz:¬ r2.kind=0
    ·have hR2:(l,r2)=R:=by rw[<-Hq.o.1,if_neg hz,zkv S _ _ hz]
     subst hR2
     have Hev:Hid (evR r2.kind r2.fat=.iface 84 (.agg #[.int .i64 r2.kind,.int .i64 r2.fat])):=zcc hz
     have Hz:=zh hz
     have HK:Hid _:=Kp.trans Hq.o.2.2.2 H5.o.2
     rw[Hev.o]
     clear hz
     go_wp2
     exact bodyPost_ret (v:=.tuple #[.slice none 0 0,.iface 84 (.agg #[.int .i64 r2.kind,.int .i64 r2.fat])]) (by simp[results,Tryz.results34,go_sem]) rfl ⟨none,0,0,by rw[Hev.o],fun h=>absurd h Hz.o,HK.o⟩
    ·replace hz:r2.kind=0:=Decidable.not_not.1 hz
     obtain⟨P2,rfl,hP2⟩:=Hgood.o hz
     clear hz
     rw[zcb rfl]
     have hown:w5.ownsRow w.heap.size 9 1 u8 l.length (l.map Value.string):=ownsRow.kp Hq.o.2.2.1 H5.o.2 (fun g hg=>by have:=(Hq.o.2.2.1.lt g hg).1;simp only[List.mem_singleton];omega)
     have hsz5:w.heap.size<=w5.heap.size:=Kp.size (Kp.trans Hq.o.2.2.2 H5.o.2)
     have hll:l.length<=65535:=by have:=Hq.o.2.1;omega
     obtain⟨i0,hi0,hzz0,hzz1,hzz2⟩:=zap zu2
     go_wp2_with (at_builtin;refine wpList_append_lies _ rfl _ _ 22 rfl w.heap.size 9 i0 (.string {data:=#[]}) 1 16 zvi hi0 hzz0 hzz1 hzz2 rfl (by decide) _ _ _ rfl (hown.alloc _) ⟨w5.heap.size,0,none⟩ 1 1 [.string x] rfl rfl (cell_one_new w5 _ _) (by simp[Value.oneCell']) (by decide) (by unfold maxLen;omega) (by omega) (by simp;omega) (w5.heap.size+1) (by simp) ?_)
     intro g9 cap9 w9 ho9 hg9 hat9 hlt9
     have Q:Hid (∃ (l2:List ByteArray) (P:Nat),zc7 S (k - (i+1)) (l2,⟨P,0,0⟩)=R/\P<=S.size/\l2.length=i+1/\w9.ownsRow w.heap.size 9 1 (.slice (some ⟨g9,0,none⟩) (l.length+1) cap9) l2.length (l2.map Value.string)/\PBox w9 rp S P/\Kp [rp] w w9):=by
      have hk9:=zih hg9
      have hb:∀ g,u8.ownBlock=some g->w.heap.size<=g:=fun g hg=>(hown.lt g hg).1
      refine⟨l++[x],P2,by rw[<-Hq.o.1];rfl,hP2,by rw[lA,Hq.o.2.1];rfl,?_,?_,?_⟩
      ·rw[lA,List.map_append]
       exact ho9
      ·refine PBox.kp (PBox.kp H5.o.1 kA (by simp)) hk9 (fun hx=>?_)
       have:=hb rp (by simpa using hx)
       omega
      ·refine Kp.then ((Kp.trans Hq.o.2.2.2 H5.o.2).trans (Kp.alloc _ _ _)) hk9 (fun y hy=>Or.inr (hb y (by simpa using hy)))
     clear ho9 hg9 hat9 hlt9 hown
     go_wp2
     go_roundg (k - (i+1))
     case measure=>omega
     case rel=>exact⟨i+1,by first | rfl | (congr 1;omega) | go_num,by omega,rfl,Q⟩
   ·have hi':¬ (i:Int) < k:=by omega
    rw[show k - i=0 by omega,zc7] at q1
    subst q1
    obtain⟨q,cap,e1,hIn⟩:=zkx q4 (by omega)
    have hbl:=q4.lt
    subst e1
    have Hq:Hid _:=And.intro hIn (And.intro hbl (And.intro q5 (And.intro q2 (And.intro q3 q6))))
    clear q2 q3 q4 q5 q6 hIn hbl
    go_wp2
    refine bodyPost_ret (v:=.tuple #[.slice q l.length cap,.nilIface]) (by simp[results,Tryz.results34,go_sem]) rfl ⟨q,l.length,cap,rfl,fun _=>⟨rfl,Hq.o.1,fun b hb=>Hq.o.2.1 b.block (by rw[hb];rfl),Hq.o.2.2.1,rfl,Hq.o.2.2.2.1,by have:=Hq.o.2.2.2.2.1;show l.length<=65535;omega⟩,Hq.o.2.2.2.2.2⟩
def UBox(w:World)(xp:Nat)(a b:Int)(q:Option Addr)(m c:Nat):Prop:=w.heap[xp]? = some (.cells #[.int .i64 a,.int .i64 b,.slice q m c] 47)
section
variable{w w':World}{xp:Nat}{a b:Int}{q:Option Addr}{m c:Nat}
theorem UBox.lt(h:UBox w xp a b q m c):xp < w.heap.size:=(sz h)
theorem UBox.kp{X:List Nat}(h:UBox w xp a b q m c)(hk:Kp X w w')(hx:xp∉X):UBox w' xp a b q m c:=(hk.block xp h.lt hx).trans h
theorem UBox.cells(h:UBox w xp a b q m c):w.cell? ⟨xp,0,none⟩=some (.int .i64 a)/\w.cell? ⟨xp,1,none⟩=some (.int .i64 b)/\w.cell? ⟨xp,2,none⟩=some (.slice q m c)/\(∀ j,w.frozen? ⟨xp,j,none⟩=false):=by
 unfold UBox at h
 refine⟨?_,?_,?_,fun j=>?_⟩ <;> simp[World.cell?,World.frozen?,h]
theorem UBox.set0(h:UBox w xp a b q m c)(v:Int):UBox (w.setCell ⟨xp,0,none⟩ (.int .i64 v)) xp v b q m c:=by
 unfold UBox at *
 simp[World.setCell,Array.getElem?_modify,h]
theorem UBox.set1(h:UBox w xp a b q m c)(v:Int):UBox (w.setCell ⟨xp,1,none⟩ (.int .i64 v)) xp a v q m c:=by
 unfold UBox at *
 simp[World.setCell,Array.getElem?_modify,h]
theorem UBox.set2(h:UBox w xp a b q m c)(q':Option Addr)(m' c':Nat):UBox (w.setCell ⟨xp,2,none⟩ (.slice q' m' c')) xp a b q' m' c':=by
 unfold UBox at *
 simp[World.setCell,Array.getElem?_modify,h]
end
structure UW(w:World)(rp:Nat)(xp:Nat)(a b:Int)(q:Option Addr)(m c:Nat)(u:World):Prop where
 xb:UBox u xp a b q m c
 kp:Kp [rp] w u
 xr:xp≠rp
 fr:w.heap.size<=xp
section
variable{w:World}{rp:Nat}{xp:Nat}{a b:Int}{q:Option Addr}{m c:Nat}{u:World}
theorem UW.call(h:UW w rp xp a b q m c u){u':World}(hk:Kp [rp] u u'):UW w rp xp a b q m c u':=⟨h.xb.kp hk (by simpa using h.xr),h.kp.trans hk,h.xr,h.fr⟩
theorem UW.put(h:UW w rp xp a b q m c u){u':World}{a' b':Int}{q':Option Addr}{m' c':Nat}(hx:UBox u' xp a' b' q' m' c')(hk:Kp [xp] u u'):UW w rp xp a' b' q' m' c' u':=⟨hx,h.kp.then hk (by intro y hy;right;simp only[List.mem_singleton] at hy;rw[hy];exact h.fr),h.xr,h.fr⟩
theorem UW.p0(h:UW w rp xp a b q m c u)(v:Int):UW w rp xp v b q m c (u.setCell ⟨xp,0,none⟩ (.int .i64 v)):=h.put (h.xb.set0 v) (Kp.setCell _ ⟨xp,0,none⟩ (by simp) _)
theorem UW.p1(h:UW w rp xp a b q m c u)(v:Int):UW w rp xp a v q m c (u.setCell ⟨xp,1,none⟩ (.int .i64 v)):=h.put (h.xb.set1 v) (Kp.setCell _ ⟨xp,1,none⟩ (by simp) _)
theorem UW.p2(h:UW w rp xp a b q m c u)(q':Option Addr)(m' c':Nat):UW w rp xp a b q' m' c' (u.setCell ⟨xp,2,none⟩ (.slice q' m' c')):=h.put (h.xb.set2 q' m' c') (Kp.setCell _ ⟨xp,2,none⟩ (by simp) _)
theorem UW.all(h:UW w rp xp a b q m c u):UW w rp xp a b q m c (((u.setCell ⟨xp,0,none⟩ (.int .i64 a)).setCell ⟨xp,1,none⟩ (.int .i64 b)).setCell ⟨xp,2,none⟩ (.slice q m c)):=((h.p0 a).p1 b).p2 q m c
end
def fun0(S:ByteArray)(pos:Nat):Fn×Rs:=funR S ⟨pos,0,0⟩
theorem zxo{S:ByteArray}{pos:Nat}(h:¬ (num0 S 2 pos).2.kind=0):(fun0 S pos).2=(num0 S 2 pos).2:=by
 have e:Rs.num S 2 ⟨pos,0,0⟩=num0 S 2 pos:=rfl
 have e2:Rs.num S 2 (num0 S 2 pos).2=(0,(num0 S 2 pos).2):=by unfold Rs.num;rw[if_neg h]
 unfold fun0 funR zgx
 rw[e,e2]
 simp only[e2]
 rfl
theorem zxn{S:ByteArray}{pos:Nat}(h:(num0 S 2 pos).2.kind=0)(h2:¬ (num0 S 2 (pos+2)).2.kind=0):(fun0 S pos).2=(num0 S 2 (pos+2)).2:=by
 have e:Rs.num S 2 ⟨pos,0,0⟩=num0 S 2 pos:=rfl
 have e2:Rs.num S 2 (num0 S 2 pos).2=num0 S 2 (pos+2):=by rw[(zbm h).1];rfl
 have e3:Rs.num S 2 (num0 S 2 (pos+2)).2=(0,(num0 S 2 (pos+2)).2):=by unfold Rs.num;rw[if_neg h2]
 unfold fun0 funR zgx
 rw[e,e2,e3]
 rfl
theorem zxm{S:ByteArray}{pos:Nat}(h:(num0 S 2 pos).2.kind=0)(h2:(num0 S 2 (pos+2)).2.kind=0):fun0 S pos=(⟨(num0 S 2 pos).1,(num0 S 2 (pos+2)).1,(insL S (pos+2+2)).1⟩,(insL S (pos+2+2)).2):=by
 have e:Rs.num S 2 ⟨pos,0,0⟩=num0 S 2 pos:=rfl
 have e2:Rs.num S 2 (num0 S 2 pos).2=num0 S 2 (pos+2):=by rw[(zbm h).1];rfl
 have e3:Rs.num S 2 (num0 S 2 (pos+2)).2=num0 S 2 (pos+2+2):=by rw[(zbm h2).1];rfl
 unfold fun0 funR zgx
 rw[e,e2,e3]
 rfl
inductive FunPost(w:World)(rp:Nat)(S:ByteArray)(f:Fn)(r:Rs)(e:Ending)(w':World):Prop
 | mk (a b:Int) (q:Option Addr) (m cap:Nat) (he:e=.returned (.tuple #[.agg #[.int .i64 a,.int .i64 b,.slice q m cap],evR r.kind r.fat])) (hr:r.kind=0->a=f.free/\b=f.sA/\m=f.ins.length/\InsC w' q f.ins/\(∀ b,q=some b->w.heap.size<=b.block/\b.block < w'.heap.size)/\PBox w' rp S r.pos/\r.fat=0/\r.pos<=S.size/\f.ins.length<=65535) (hk:Kp [rp] w w'):FunPost w rp S f r e w'
theorem zt1(w:World)(rp:Nat)(S:ByteArray)(pos:Nat)(h:PBox w rp S pos)(hSh:ShIn w)(hrp:3≠rp)(hS:S.size<=4000000)(hp:pos<=4000000):Calls Tryz.prog 37 #[.pointer (some ⟨rp,0,none⟩)] w fun e w'=>FunPost w rp S (fun0 S pos).1 (fun0 S pos).2 e w':=by
 have hU0:UW w rp w.heap.size 0 0 none 0 0 (w.alloc (.cells #[.int .i64 0,.int .i64 0,.slice none 0 0] 47)):=⟨(MapKept.heap_alloc w _).1,Kp.alloc _ _ _,by have:=h.lt;omega,Nat.le_refl _⟩
 have hP0:PBox (w.alloc (.cells #[.int .i64 0,.int .i64 0,.slice none 0 0] 47)) rp S pos:=h.kp kA (by simp)
 have HU0:=zh hU0
 have HP0:=zh hP0
 have HSh:Hid (∀ wx,Kp [rp] w wx->ShIn wx):=fun wx hx=>hSh.of_block (hx.block 3 hSh.lt (by simpa using hrp))
 have Hg1:Hid _:=zbm (S:=S) (n:=2) (pos:=pos)
 have Hg2:Hid _:=zbm (S:=S) (n:=2) (pos:=pos+2)
 have Ha:Hid _:=zxo (S:=S) (pos:=pos)
 have Hb:Hid _:=zxn (S:=S) (pos:=pos)
 have Hcc:Hid _:=zxm (S:=S) (pos:=pos)
 have Hc1:Hid _:=zc6 _ rp S pos hP0 hS hp
 have Hc2:Hid (∀ wx:World,PBox wx rp S ((pos+2:Nat):Int)->pos+2<=4000000->_):=fun wx hx hl=>zc6 wx rp S (pos+2) hx hS hl
 have Hc3:Hid (∀ wx:World,PBox wx rp S ((pos+2+2:Nat):Int)->ShIn wx->pos+2+2<=4000000->_):=fun wx hx hs hl=>zqp wx rp S (pos+2+2) hx hs hrp hS hl
 obtain⟨R,hR⟩:∃ R,R=fun0 S pos:=⟨_,rfl⟩
 rw[<-hR] at Ha Hb Hcc ⊢
 clear hU0 hP0 hSh h hR
 generalize num0 S 2 pos=A at *
 generalize num0 S 2 (pos+2)=B at *
 generalize insL S (pos+2+2)=C at *
 obtain⟨av,r1⟩:=A
 obtain⟨bv,r2⟩:=B
 obtain⟨l,r3⟩:=C
 simp only at Hg1 Hg2 Ha Hb Hcc Hc1 Hc2 Hc3
 go_enter Tryz.func37,Tryz.ntmps37
 go_upto_region 1 with fail
 generalize w.alloc _=w0 at *
 go_wp2_with fail
 refine cM Hc1.o ?_
 rintro e1 w1 ⟨rfl,p1,k1⟩
 have HU1:Hid _:=UW.call HU0.o k1
 have HP1:=zh p1
 clear p1 k1
 obtain⟨x0,x1,x2,xf⟩:=HU1.o.xb.cells
 have xf0:=xf 0
 have xf1:=xf 1
 have xf2:=xf 2
 have xl:=HU1.o.xb.lt
 clear xf
 have HU2:Hid _:=HU1.o.p0 av
 have HP2:Hid (PBox (w1.setCell ⟨w.heap.size,0,none⟩ (.int .i64 av)) rp S r1.pos):=PBox.kp HP1.o (Kp.setCell (X:=[w.heap.size]) _ ⟨w.heap.size,0,none⟩ (by simp) _) (by simpa using Ne.symm HU1.o.xr)
 go_upto_region 2 with fail
 clear x0 x1 x2 xf0 xf1 xf2 xl
 generalize w1.setCell _ _=w2 at *
 obtain⟨x0,x1,x2,xf⟩:=HU2.o.xb.cells
 have xf0:=xf 0
 have xf1:=xf 1
 have xf2:=xf 2
 have xl:=HU2.o.xb.lt
 clear xf
 by_cases hz1:¬ r1.kind=0
 ·have hR2:=Ha.o hz1
  have Hev:Hid (evR r1.kind r1.fat=.iface 84 (.agg #[.int .i64 r1.kind,.int .i64 r1.fat])):=zcc hz1
  have Hz:=zh hz1
  have HR2:=zh hR2
  rw[Hev.o]
  clear hz1 hR2
  have hfin:=HU2.o.all
  obtain⟨z0,z1,z2,_⟩:=hfin.xb.cells
  have Hfin:=zh hfin.kp
  clear hfin
  go_wp2
  exact bodyPost_ret (v:=.tuple #[.agg #[.int .i64 av,.int .i64 0,.slice none 0 0],.iface 84 (.agg #[.int .i64 r1.kind,.int .i64 r1.fat])]) (by simp[results,Tryz.results37,go_sem,z0,z1,z2]) rfl ⟨av,0,none,0,0,by rw[HR2.o,Hev.o],fun h=>absurd (HR2.o ▸ h) Hz.o,Hfin.o⟩
 replace hz1:r1.kind=0:=Decidable.not_not.1 hz1
 obtain⟨e1,hl1⟩:=Hg1.o hz1
 subst e1
 rw[zcb rfl]
 have Hc:Hid _:=Hc2.o w2 HP2.o (by omega)
 go_wp2_with fail
 refine cM Hc.o ?_
 rintro e3 w3 ⟨rfl,p3,k3⟩
 have HU3:Hid _:=UW.call HU2.o k3
 have HP3:=zh p3
 clear p3 k3
 clear x0 x1 x2 xf0 xf1 xf2 xl
 obtain⟨x0,x1,x2,xf⟩:=HU3.o.xb.cells
 have xf0:=xf 0
 have xf1:=xf 1
 have xf2:=xf 2
 have xl:=HU3.o.xb.lt
 clear xf
 have HU4:Hid _:=HU3.o.p1 bv
 have HP4:Hid (PBox (w3.setCell ⟨w.heap.size,1,none⟩ (.int .i64 bv)) rp S r2.pos):=PBox.kp HP3.o (Kp.setCell (X:=[w.heap.size]) _ ⟨w.heap.size,1,none⟩ (by simp) _) (by simpa using Ne.symm HU3.o.xr)
 go_upto_region 5 with fail
 clear x0 x1 x2 xf0 xf1 xf2 xl
 generalize w3.setCell _ _=w4 at *
 obtain⟨x0,x1,x2,xf⟩:=HU4.o.xb.cells
 have xf0:=xf 0
 have xf1:=xf 1
 have xf2:=xf 2
 have xl:=HU4.o.xb.lt
 clear xf
 by_cases hz2:¬ r2.kind=0
 ·have hR2:=Hb.o (by first | rfl | trivial) hz2
  have Hev:Hid (evR r2.kind r2.fat=.iface 84 (.agg #[.int .i64 r2.kind,.int .i64 r2.fat])):=zcc hz2
  have Hz:=zh hz2
  have HR2:=zh hR2
  rw[Hev.o]
  clear hz1 hz2 hR2
  have hfin:=HU4.o.all
  obtain⟨z0,z1,z2,_⟩:=hfin.xb.cells
  have Hfin:=zh hfin.kp
  clear hfin
  go_wp2
  exact bodyPost_ret (v:=.tuple #[.agg #[.int .i64 av,.int .i64 bv,.slice none 0 0],.iface 84 (.agg #[.int .i64 r2.kind,.int .i64 r2.fat])]) (by simp[results,Tryz.results37,go_sem,z0,z1,z2]) rfl ⟨av,bv,none,0,0,by rw[HR2.o,Hev.o],fun h=>absurd (HR2.o ▸ h) Hz.o,Hfin.o⟩
 replace hz2:r2.kind=0:=Decidable.not_not.1 hz2
 obtain⟨e2,hl2⟩:=Hg2.o hz2
 subst e2
 have hR2:=Hcc.o (by first | rfl | trivial) (by first | rfl | trivial)
 subst hR2
 rw[zcb rfl]
 have Hc:Hid _:=Hc3.o w4 HP4.o (HSh.o w4 HU4.o.kp) (by omega)
 clear hz1 hz2
 go_wp2_with fail
 refine cM Hc.o ?_
 rintro e5 w5 ⟨q,m,cap,rfl,hq,k5⟩
 have HU5:Hid _:=UW.call HU4.o k5
 have HK5:Hid (_/\_):=⟨k5.size,Kp.size HU4.o.kp⟩
 have Hq:=zh hq
 clear hq k5
 clear x0 x1 x2 xf0 xf1 xf2 xl
 obtain⟨x0,x1,x2,xf⟩:=HU5.o.xb.cells
 have xf0:=xf 0
 have xf1:=xf 1
 have xf2:=xf 2
 have xl:=HU5.o.xb.lt
 clear xf
 generalize hev:evR r3.kind r3.fat=ev at *
 have Hev:=zh hev
 clear hev
 have HU6:Hid _:=HU5.o.p2 q m cap
 have HK6:Hid (Kp [w.heap.size] w5 (w5.setCell ⟨w.heap.size,2,none⟩ (.slice q m cap))):=Kp.setCell w5 ⟨w.heap.size,2,none⟩ (by simp) _
 have Hlt:=zh HU4.o.xb.lt
 go_upto_region 8 with fail
 clear x0 x1 x2 xf0 xf1 xf2 xl
 generalize w5.setCell _ _=w6 at *
 obtain⟨x0,x1,x2,xf⟩:=HU6.o.xb.cells
 have xf0:=xf 0
 have xf1:=xf 1
 have xf2:=xf 2
 have xl:=HU6.o.xb.lt
 clear xf
 have hk7:Kp [w.heap.size] w6 (((w6.setCell ⟨w.heap.size,0,none⟩ (.int .i64 av)).setCell ⟨w.heap.size,1,none⟩ (.int .i64 bv)).setCell ⟨w.heap.size,2,none⟩ (.slice q m cap)):=((Kp.setCell w6 ⟨w.heap.size,0,none⟩ (by simp) _).trans (Kp.setCell _ ⟨w.heap.size,1,none⟩ (by simp) _)).trans (Kp.setCell _ ⟨w.heap.size,2,none⟩ (by simp) _)
 have HK7:Hid _:=Kp.trans HK6.o hk7
 clear hk7
 have Hres:Hid (r3.kind=0->m=l.length/\InsC (((w6.setCell ⟨w.heap.size,0,none⟩ (.int .i64 av)).setCell ⟨w.heap.size,1,none⟩ (.int .i64 bv)).setCell ⟨w.heap.size,2,none⟩ (.slice q m cap)) q l/\(∀ b,q=some b->w.heap.size<=b.block/\b.block < (((w6.setCell ⟨w.heap.size,0,none⟩ (.int .i64 av)).setCell ⟨w.heap.size,1,none⟩ (.int .i64 bv)).setCell ⟨w.heap.size,2,none⟩ (.slice q m cap)).heap.size)/\PBox (((w6.setCell ⟨w.heap.size,0,none⟩ (.int .i64 av)).setCell ⟨w.heap.size,1,none⟩ (.int .i64 bv)).setCell ⟨w.heap.size,2,none⟩ (.slice q m cap)) rp S r3.pos/\r3.fat=0/\r3.pos<=S.size/\l.length<=65535):=fun hz=>by
  obtain⟨a1,a2,a3,a4,a5,a6,a7⟩:=Hq.o hz
  have hlt:=Hlt.o
  refine⟨a1,a2.kp HK7.o (fun b hb=>?_),fun b hb=>⟨?_,?_⟩,a4.kp HK7.o (by simpa using Ne.symm HU5.o.xr),a5,a6,a7⟩
  ·have:=(a3 b hb).1
   simp only[List.mem_singleton]
   omega
  ·have:=(a3 b hb).1
   have:=HK5.o.2
   omega
  ·exact lL (a3 b hb).2 HK7.o.size
 have hfin:=HU6.o.all
 obtain⟨z0,z1,z2,_⟩:=hfin.xb.cells
 have Hfin:=zh hfin.kp
 clear hfin
 go_wp2
 exact bodyPost_ret (v:=.tuple #[.agg #[.int .i64 av,.int .i64 bv,.slice q m cap],ev]) (by simp[results,Tryz.results37,go_sem,z0,z1,z2]) rfl ⟨av,bv,q,m,cap,by rw[Hev.o],fun h=>⟨rfl,rfl,Hres.o h⟩,Hfin.o⟩
end Go.Proofs.YtkcmachfagcnaaaGreatDoor.C12
